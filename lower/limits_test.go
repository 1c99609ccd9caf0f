package lower_test

import (
	"strings"
	"testing"

	"chattel/api"
	"chattel/lex"
	"chattel/lower"
	"chattel/mir"
	"chattel/sigs"
	"chattel/tree"
	"chattel/types"
)

// last: the last job of a program, lowered.
func last(t *testing.T, text string) (world, lower.Job, lower.Done, api.Err) {
	t.Helper()
	w := read(t, text)
	jobs := lower.Jobs(w.table, w.env)
	j := jobs[len(jobs)-1]
	d, e := lower.Lower(w.table, w.env, j)
	return w, j, d, e
}

// P18.1: more than 150 locals, or 1200 instructions.
func TestLimits(t *testing.T) {
	lets := strings.Repeat("let x : int ;\n", 149)
	if _, _, d, e := last(t, "fn f ( ) {\n"+lets+"}"); e != (api.Err{}) || len(d.Body.Locals) != 150 {
		t.Error(e)
	}
	if _, _, d, e := last(t, "fn f ( ) {\n"+lets+"let x : int ;\nx ; y ; }"); e != (api.Err{Code: api.Limit, At: api.Pos{Line: 151, Col: 1}}) || d.Body != nil {
		t.Error(e)
	}
	if _, _, _, e := last(t, "fn f ( a : int ) {\n"+lets+"}"); e != (api.Err{Code: api.Limit, At: api.Pos{Line: 150, Col: 1}}) {
		t.Error(e)
	}
	if _, _, _, e := last(t, "fn f ( ) {\n"+strings.Repeat("let x : int ;\n", 148)+"return rd ( &\n1 ) ; }\nfn rd ( x : & int ) { } fn f2 ( ) { }"); e != (api.Err{}) {
		t.Error(e)
	}
	w := read(t, "fn rd ( x : & int ) { }\nfn f ( ) {\n"+lets+"rd (\n&\n1 ) ; }")
	if _, e := w.pieces(); e != (api.Err{Code: api.Limit, At: api.Pos{Line: 154, Col: 1}}) {
		t.Error(e)
	}
	// An abort is one instruction, and one is the end.
	for n, want := range map[int]api.Err{1199: {}, 1200: {Code: api.Limit, At: api.Pos{Line: 1, Col: 3}}, 1201: {Code: api.Limit, At: api.Pos{Line: 1202, Col: 1}}, 1300: {Code: api.Limit, At: api.Pos{Line: 1202, Col: 1}}} {
		if _, _, d, e := last(t, "  fn f ( ) -> int {\n"+strings.Repeat("abort ;\n", n)+"}"); e != want || (e.Code == 0) != (d.Body != nil) || e.Code == 0 && len(d.Body.Code) != 1200 {
			t.Error(n, e)
		}
	}
	// Errors ahead of a limit are told.
	if _, _, _, e := last(t, "fn f ( ) { x ; "+lets+"let x = 1 ; }"); e.Code != api.Unknown {
		t.Error(e)
	}
}

// P18.1: a job with too many parameters; a closure's struct with more than 100 lifetimes.
func TestJobLimits(t *testing.T) {
	w := read(t, "struct Ten < 'a , 'b , 'c , 'd , 'e , 'f , 'g , 'h > { a : & 'a & 'b & 'c & 'd & 'e & 'f & 'g & 'h int } trait Q { fn q ( & self ) ; } fn g ( ) { as Q | | { a ; b ; } ; }")
	at := api.Pos{Line: 7, Col: 9}
	j := lower.Job{Name: "f", At: at, Sig: sigs.Sig{Params: make([]T, 149)}}
	if d, e := lower.Lower(w.table, w.env, j); e != (api.Err{}) || len(d.Body.Locals) != 150 {
		t.Error(e)
	}
	j.Sig.Params = make([]T, 150)
	if d, e := lower.Lower(w.table, w.env, j); e != (api.Err{Code: api.Limit, At: at}) || d.Body != nil {
		t.Error(e)
	}
	// By a reference to each of two references to structs: so many lifetimes as their regions, and two each.
	g := lower.Jobs(w.table, w.env)[0]
	for _, c := range []struct {
		a, b int
		code api.Errno
	}{{0, 0, api.OK}, {48, 48, api.OK}, {48, 49, api.Limit}, {96, 0, api.OK}, {97, 0, api.Limit}, {0, 1000, api.Limit}} {
		part := func(n int) T {
			return reg(1, false, T{Kind: types.Struct, Name: "Ten", Regions: make([]int, n)})
		}
		j := lower.Job{Name: "f", At: at, Names: []string{"a", "b"}, Body: g.Body, Sig: sigs.Sig{Params: []T{part(c.a), part(c.b)}, Ret: T{Kind: types.Unit}}}
		d, e := lower.Lower(w.table, w.env, j)
		if e.Code != c.code || e.Code != 0 && e.At != at || e.Code == 0 && d.Structs[0].Lifes != 4+c.a+c.b {
			t.Error(c, e)
		}
	}
}

// sums are how much of what is limited a body has, here and in layers 19 to 22.
type sums struct{ locals, code, places, loans, regions int }

func (s sums) fits() bool {
	return s.locals <= api.MaxLocals && s.code <= api.MaxPoints && s.places <= 4000 && s.loans <= api.MaxLoans && s.regions <= api.MaxRegions+1
}

func sum(p piece) sums {
	b := p.done.Body
	s := sums{locals: len(b.Locals), code: len(b.Code), regions: 1 + sigs.Count(p.job.Sig)}
	for _, l := range b.Locals[b.Params+1:] {
		s.regions += len(types.All(l.Type))
	}
	stand := func(l []T) {
		for _, x := range l {
			s.regions += len(types.All(x))
		}
	}
	for i, c := range b.Code {
		s.places += len(mir.Accesses(b, i))
		switch c.R.Kind {
		case mir.Borrow:
			s.loans++
			s.regions++
		case mir.Make:
			x, _ := p.env.Struct(c.R.Name)
			s.regions += x.Lifes
			stand(c.R.Types)
		case mir.Call:
			f, _ := p.env.Fn(c.R.Name)
			s.regions += f.Sig.Lifes
			stand(c.R.Types)
		case mir.Invoke:
			x, _ := p.env.Trait(c.R.Name)
			s.regions += x.Methods[c.R.N].Sig.Lifes
			stand(c.R.Types)
		}
	}
	return s
}

// dense are bodies that make as much as they can of each: statements that are repeated.
func dense() []string {
	nest := func(open, in, shut string, n int) string {
		return strings.Repeat(open, n) + in + strings.Repeat(shut, n)
	}
	return []string{
		"rd ( & 1 ) + rd ( & 1 ) + rd ( & 1 ) ; ", "let x = & & & & 1 ; ", "& & & & 1 ; ", "& mut & & & 1 ; ", nest("- ", "1 ; ", "", 31), "choose && choose && choose && choose ; ", "let x = " + nest("choose == ( ", "choose", " )", 11) + " ; ",
		"choose ; ", "while choose { } ", "while " + nest("! ", "choose { } ", "", 20), "if choose { } else { } ", "let x : int ; ", "let x = 1 ; ", "{ let x = & 1 ; } ", "1 = 1 ; ", "* & mut 1 = 1 ; ", "{ } ", "( ) ; ", "return 1 ; ", "abort ; ", "x ; ", "b ; ",
		"two ( & 1 , & 1 ) ; ", "all ( " + strings.Repeat("& 1 , ", 7) + "& 1 ) ; ", "dyns ( & 1 , & 1 , & 1 ) ; ", "own ( Box ( 1 ) ) ; ", "lot ( ) ; ", "1 . many ( ) ; ", "( & 1 ) . many ( ) ; ", "1 . add ( 1 ) ; ", "x . add ( x ) ; ", "x . add ( * & x ) ; ", "unbox ( Box ( & 1 ) ) ; ", nest("same ( ", "1", " )", 31) + " ; ",
		"let x : " + nest("Box < ", "dyn Show", " >", 14) + " = " + nest("Box ( ", "1", " )", 14) + " ; ", "let x : Box < Box < dyn Show > > = Box ( Box ( 1 ) ) ; x = Box ( Box ( 1 ) ) ; ", "new P { b : & 1 , a : & 1 } ; ", "new P { b : x , a : x } ; ",
		"as Show | | { x ; } ; ", "as Show | | { a ; x ; } ; ", "as Show | | { d ; } ; ", nest("as Show | | { ", "", "} ; ", 12), "let y = as Show | | { x ; } ; y . show ( ) ; ", "* * * & & & 1 ; ", "x = x + * & x ; ", "* & mut x = inc ( & mut x ) ; ",
	}
}

// full: a text repeated up to 100 tokens.
func full(s string) string {
	out := s
	for {
		if l, _ := lex.All(out + s); len(l) > 101 {
			return out
		}
		out += s
	}
}

const denseHead = `
struct P < T > { a : T , b : T }
trait Show { fn show ( & self ) ; }
trait Many { fn many < 'a , 'b , 'c , 'd , 'e , 'f , 'g , 'h > ( & self ) -> & 'a & 'b & 'c & 'd int ; }
trait Add { fn add ( self , n : int ) -> int ; }
impl Show for int { fn show ( & self ) { } }
impl Many for int { fn many < 'a , 'b , 'c , 'd , 'e , 'f , 'g , 'h > ( & self ) -> & 'a & 'b & 'c & 'd int { abort ; } }
impl Add for int { fn add ( self , n : int ) -> int { abort ; } }
fn rd ( x : & int ) -> int { abort ; }
fn inc ( x : & mut int ) -> int { abort ; }
fn same < T > ( x : T ) -> T { abort ; }
fn two < T > ( x : T , y : T ) -> P < T > { abort ; }
fn all < A , B , C , D , E , F , G , H > ( a : A , b : B , c : C , d : D , e : E , f : F , g : G , h : H ) { }
fn dyns ( a : & dyn Show , b : & dyn Show , c : & dyn Show ) { }
fn own ( x : Box < dyn Show > ) { }
fn lot < 'a , 'b , 'c , 'd , 'e , 'f , 'g , 'h > ( ) -> & 'a & 'b & 'c & 'd int { abort ; }
`

// P18.1: a job of at most 100 tokens, none of whose types has more than 4 regions, meets no limit here, and none in what layers 19 to 22 count.
func TestDense(t *testing.T) {
	var most sums
	for _, s := range dense() {
		s = full(s)
		if l, e := lex.All(s); e.Code != 0 || len(l) > 101 {
			t.Fatalf("%s: %d tokens", s, len(l))
		}
		for _, ret := range []string{"int", "& 'static & 'static & 'static & 'static int"} {
			w, j, d, e := last(t, denseHead+"fn f ( a : & & & & int , b : & & & & int , c : & mut & mut int , d : Box < & & int > , x : int ) -> "+ret+" { "+s+"}")
			if e.Code != 0 && !(e.Code == api.Kind && strings.HasPrefix(s, "return")) {
				t.Errorf("%s: %v", s, e)
			}
			if e.Code != 0 {
				continue
			}
			n := sum(piece{j, more(w.env, d), d})
			if !n.fits() {
				t.Errorf("%s: %+v", s, n)
			}
			most = sums{max(most.locals, n.locals), max(most.code, n.code), max(most.places, n.places), max(most.loans, n.loans), max(most.regions, n.regions)}
		}
	}
	t.Log(most)
}

// P18.1: deep trees end, and so does one that is too much.
func TestDeep(t *testing.T) {
	w := read(t, "fn f ( x : int ) -> int { }")
	j := lower.Jobs(w.table, w.env)[0]
	const n = 1 << 16
	at := api.Pos{Line: 1, Col: 2}
	minus, paren, x, right, body := tree.Expr{Kind: tree.EVar, Name: "x"}, tree.Expr{Kind: tree.EVar, Name: "x"}, T{Kind: types.Int}, tree.Expr{Kind: tree.EVar, Name: "x"}, []tree.Stmt{}
	deref := paren
	for range n {
		minus = tree.Expr{Kind: tree.EUn, Name: "-", Args: []tree.Expr{minus}, At: at}
		paren = tree.Expr{Kind: tree.EParen, Args: []tree.Expr{paren}, At: at}
		right = tree.Expr{Kind: tree.EBin, Name: "+", Args: []tree.Expr{{Kind: tree.EVar, Name: "x", At: at}, right}, At: at}
		deref, x = tree.Expr{Kind: tree.EDeref, Args: []tree.Expr{deref}}, T{Kind: types.Ref, Args: []T{x}}
		body = []tree.Stmt{{Kind: tree.SBlock, Body: body}}
	}
	for _, c := range []struct {
		e    tree.Expr
		of   T
		want api.Err
	}{
		{minus, T{Kind: types.Int}, api.Err{Code: api.Limit, At: at}}, {right, T{Kind: types.Int}, api.Err{Code: api.Limit, At: at}}, {paren, T{Kind: types.Int}, api.Err{}}, {deref, x, api.Err{}},
	} {
		j.Body, j.Sig.Params = []tree.Stmt{{Kind: tree.SReturn, E: []tree.Expr{c.e}}}, []T{c.of}
		if _, e := lower.Lower(w.table, w.env, j); e != c.want {
			t.Error(e, c.want)
		}
	}
	j.Body = body
	if d, e := lower.Lower(w.table, w.env, j); e != (api.Err{}) || len(d.Body.Code) != 1 {
		t.Error(e)
	}
}
