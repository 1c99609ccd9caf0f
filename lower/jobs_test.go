package lower_test

import (
	"reflect"
	"strings"
	"testing"

	"chattel/api"
	"chattel/lower"
	"chattel/sigs"
	"chattel/types"
)

// P18.1: names of impls' methods.
func TestKey(t *testing.T) {
	for _, c := range []struct {
		trait, head string
		n           int
		want        string
	}{{"T", "int", 0, "T int 0"}, {"Get", "S", 12, "Get S 12"}, {"T", "f#0", 0, "T f#0 0"}, {"", "", 0, "  0"}, {"A B", "C", -3, "A B C -3"}, {"T", "S", 9223372036854775807, "T S 9223372036854775807"}} {
		if got := lower.Key(c.trait, c.head, c.n); got != c.want {
			t.Errorf("%q, want %q", got, c.want)
		}
	}
}

// P18.1: the jobs of functions and of impls' methods, in the order of the text.
func TestJobs(t *testing.T) {
	w := read(t, `fn one < 'x , T > ( a : & 'x T , b : & int ) -> & 'x T where T : Q { return a ; }
struct S < 'a , 'b , U > { u : & 'a mut & 'b U }
trait Q { fn first ( & self ) ; fn second < 'm > ( self , x : & 'm int , y : bool ) -> int ; }
impl Q for S where U : Q {
	fn second < 'n > ( self , p : & 'n int , q : bool ) -> int { return 1 ; }
	fn first ( & self ) { }
}
impl Q for int { fn first ( & self ) { } fn second < 'n > ( self , p : & 'n int , q : bool ) -> int { abort ; } }
trait None { }
impl None for bool { }
fn two ( ) { }`)
	whole := func(trait, head string, i int) sigs.Sig {
		im, _ := w.env.Impl(trait, head)
		return w.env.Whole(im, im.Methods[i])
	}
	fn := func(s string) sigs.Sig {
		f, _ := w.env.Fn(s)
		return f.Sig
	}
	items := w.items
	want := []lower.Job{
		{Name: "one", Sig: fn("one"), Names: []string{"a", "b"}, Lifes: []string{"'x"}, Body: items[0].Body, At: api.Pos{Line: 1, Col: 1}},
		{Name: "Q S 1", Sig: whole("Q", "S", 0), Names: []string{"self", "p", "q"}, Lifes: []string{"'a", "'b", "'n"}, Body: items[3].Methods[0].Body, At: api.Pos{Line: 5, Col: 2}},
		{Name: "Q S 0", Sig: whole("Q", "S", 1), Names: []string{"self"}, Lifes: []string{"'a", "'b"}, Body: items[3].Methods[1].Body, At: api.Pos{Line: 6, Col: 2}},
		{Name: "Q int 0", Sig: whole("Q", "int", 0), Names: []string{"self"}, Body: items[4].Methods[0].Body, At: api.Pos{Line: 8, Col: 18}},
		{Name: "Q int 1", Sig: whole("Q", "int", 1), Names: []string{"self", "p", "q"}, Lifes: []string{"'n"}, Body: items[4].Methods[1].Body, At: api.Pos{Line: 8, Col: 42}},
		{Name: "two", Sig: fn("two"), At: api.Pos{Line: 11, Col: 1}},
	}
	got := lower.Jobs(w.table, w.env)
	if len(got) != len(want) {
		t.Fatal(got)
	}
	for i, j := range got {
		if sigs.SigText(j.Sig) != sigs.SigText(want[i].Sig) || len(j.Sig.Bounds) != len(want[i].Sig.Bounds) {
			t.Errorf("%s: %s", j.Name, sigs.SigText(j.Sig))
		}
		j.Sig, want[i].Sig = sigs.Sig{}, sigs.Sig{}
		if len(j.Body) == 0 && len(want[i].Body) == 0 {
			j.Body, want[i].Body = nil, nil
		}
		if len(j.Lifes) == 0 {
			j.Lifes = nil
		}
		if !reflect.DeepEqual(j, want[i]) {
			t.Errorf("%+v, want %+v", j, want[i])
		}
	}
	// What is answered is new memory.
	got[1].Names[0], got[1].Lifes[0], got[0].Lifes[0] = "x", "x", "x"
	again := lower.Jobs(w.table, w.env)
	if again[1].Names[0] != "self" || again[1].Lifes[0] != "'a" || again[0].Lifes[0] != "'x" {
		t.Error("not new")
	}
	if l := lower.Jobs(w.table, &sigs.Env{}); len(l) > 0 {
		t.Error("jobs without heads", l)
	}
}

// parts: a struct, an impl and a job as texts.
func parts(d lower.Done) string {
	var b strings.Builder
	for i, s := range d.Structs {
		b.WriteString(s.Name + " " + strings.Repeat("'", s.Lifes) + strings.Join(s.Types, ",") + " {")
		for _, f := range s.Fields {
			b.WriteString(" " + f.Name + ":" + types.Text(f.Type))
		}
		im, j := d.Impls[i], d.Jobs[i]
		b.WriteString(" } " + im.Trait + "/" + im.Head)
		for _, x := range im.Bounds {
			b.WriteString(" " + x.Type + ":" + x.Trait)
		}
		m := im.Methods[0]
		b.WriteString(" | " + sigs.MethodText(m) + " | " + j.Name + " | " + sigs.SigText(j.Sig) + " | " + strings.Join(j.Names, ",") + " |")
		for _, c := range j.Caught {
			b.WriteString(" " + c.Name)
			for _, n := range c.Path {
				b.WriteString("." + string("*0123456789"[n+1]))
			}
		}
		b.WriteString("\n")
	}
	return b.String()
}

// P18.1: closures' structs, impls and jobs.
func TestClosure(t *testing.T) {
	const head = "struct W < 'a , T > { w : & 'a mut T } trait Q { } trait Once { fn o ( self , a : int ) ; } trait Read { fn r ( & self ) -> & int ; } trait Write { fn w < 'x , 'y > ( & 'x mut self , a : & 'y int , b : & dyn Q + 'x , c : & 'static int ) -> & 'y int where 'y : 'x ; } "
	for _, c := range []struct {
		text  string
		part  sigs.Struct
		sig   sigs.Sig
		names []string
		paths []lower.Caught
	}{
		{"fn f ( ) { as Once | x | { } ; }", sigs.Struct{Name: "f#0"}, sigs.Sig{Params: []T{{Kind: types.Struct, Name: "f#0"}, {Kind: types.Int}}, Ret: T{Kind: types.Unit}}, []string{"", "x"}, nil},
		{
			"fn f ( n : int , b : Box < int > ) { as Once | x | { n = x ; b ; } ; }",
			sigs.Struct{Name: "f#0", Lifes: 1, Fields: []sigs.Field{{Name: "n", Type: reg(1, true, T{Kind: types.Int})}, {Name: "b", Type: T{Kind: types.Box, Args: []T{{Kind: types.Int}}}}}},
			sigs.Sig{Lifes: 1, Params: []T{{Kind: types.Struct, Name: "f#0", Regions: []int{1}}, {Kind: types.Int}}, Ret: T{Kind: types.Unit}},
			[]string{"", "x"}, []lower.Caught{{Name: "n", Path: []int{0, -1}}, {Name: "b", Path: []int{1}}},
		},
		{
			"fn f < 'a > ( r : & 'a int , b : Box < & 'static int > , m : & mut int ) { as Read | | { * m = * r ; & b ; } ; }",
			sigs.Struct{Name: "f#0", Lifes: 6, Fields: []sigs.Field{{Name: "r", Type: reg(1, false, reg(2, false, T{Kind: types.Int}))}, {Name: "m", Type: reg(3, true, reg(4, true, T{Kind: types.Int}))}, {Name: "b", Type: reg(5, false, T{Kind: types.Box, Args: []T{reg(6, false, T{Kind: types.Int})}})}}},
			sigs.Sig{Lifes: 7, Params: []T{reg(7, false, T{Kind: types.Struct, Name: "f#0", Regions: []int{1, 2, 3, 4, 5, 6}})}, Ret: reg(7, false, T{Kind: types.Int})},
			[]string{""}, []lower.Caught{{Name: "r", Path: []int{-1, 0, -1}}, {Name: "m", Path: []int{-1, 1, -1}}, {Name: "b", Path: []int{-1, 2, -1}}},
		},
		{
			"fn f < 'a , A , B > ( p : A , w : W < 'a , B > , d : Box < dyn Q > ) where A : Q , B : Q { as Write | a , b , c | { & p ; w ; d ; } ; }",
			sigs.Struct{Name: "f#0", Lifes: 3, Types: []string{"A", "B"}, Fields: []sigs.Field{{Name: "p", Type: reg(1, false, T{Kind: types.Param, Name: "A", Region: 4})}, {Name: "w", Type: T{Kind: types.Struct, Name: "W", Regions: []int{2}, Args: []T{{Kind: types.Param, Name: "B", Region: 5}}}}, {Name: "d", Type: T{Kind: types.Box, Args: []T{{Kind: types.Dyn, Name: "Q", Region: 3}}}}}},
			sigs.Sig{
				Lifes: 6, Types: []string{"A", "B"}, Outs: [][2]int{{5, 4}}, Bounds: []sigs.Bound{{Type: "A", Trait: "Q"}, {Type: "B", Trait: "Q"}},
				Params: []T{reg(4, true, T{Kind: types.Struct, Name: "f#0", Regions: []int{1, 2, 3}, Args: []T{{Kind: types.Param, Name: "A", Region: 7}, {Kind: types.Param, Name: "B", Region: 8}}}), reg(5, false, T{Kind: types.Int}), reg(6, false, T{Kind: types.Dyn, Name: "Q", Region: 4}), reg(0, false, T{Kind: types.Int})},
				Ret:    reg(5, false, T{Kind: types.Int}),
			},
			[]string{"", "a", "b", "c"}, []lower.Caught{{Name: "p", Path: []int{-1, 0, -1}}, {Name: "w", Path: []int{-1, 1}}, {Name: "d", Path: []int{-1, 2}}},
		},
	} {
		w := read(t, head+c.text)
		d, e := lower.Lower(w.table, w.env, lower.Jobs(w.table, w.env)[0])
		if e != (api.Err{}) || len(d.Structs) != 1 || len(d.Impls) != 1 || len(d.Jobs) != 1 {
			t.Errorf("%s: %v", c.text, e)
			continue
		}
		im, j := d.Impls[0], d.Jobs[0]
		at := api.Pos{Line: 1, Col: strings.Index(head+c.text, "as ") + 1}
		if !reflect.DeepEqual(plain(d.Structs[0]), plain(c.part)) {
			t.Errorf("%s: %+v", c.text, d.Structs[0])
		}
		if sigs.SigText(j.Sig) != sigs.SigText(c.sig) {
			t.Errorf("%s: %s, want %s", c.text, sigs.SigText(j.Sig), sigs.SigText(c.sig))
		}
		trait, _ := w.env.Trait(im.Trait)
		if j.Name != lower.Key(im.Trait, "f#0", 0) || !reflect.DeepEqual(j.Names, c.names) || !reflect.DeepEqual(j.Caught, c.paths) || j.Lifes != nil || j.At != at {
			t.Errorf("%s: %+v", c.text, j)
		}
		if im.Head != "f#0" || im.At != at || im.Methods[0].At != at || len(im.Methods) != 1 || im.Methods[0].Name != trait.Methods[0].Name || im.Methods[0].Recv != trait.Methods[0].Recv {
			t.Errorf("%s: %+v", c.text, im)
		}
		if whole := more(w.env, d).Whole(im, im.Methods[0]); sigs.SigText(whole) != sigs.SigText(c.sig) || len(im.Methods[0].Sig.Bounds) > 0 {
			t.Errorf("%s: %s", c.text, sigs.SigText(whole))
		}
	}
}

// plain: a struct whose lists are nil where they are empty.
func plain(s sigs.Struct) sigs.Struct {
	if len(s.Types) == 0 {
		s.Types = nil
	}
	return s
}

func reg(r int, mut bool, t T) T { return T{Kind: types.Ref, Region: r, Mut: mut, Args: []T{t}} }

// P18.1: closures in the order of the text: of a set's place ahead of its value's, though that is reckoned first; those within others are theirs.
func TestClosures(t *testing.T) {
	const head = "trait A { fn a ( & self ) ; } trait B { fn b ( & self ) ; } trait C { fn c ( & self ) -> int ; } fn one < T > ( x : T ) -> & 'static mut int { abort ; } fn num < T > ( x : T ) -> int { abort ; } "
	for _, c := range []struct{ text, want string }{
		{"as A | | { } ; as B | | { } ;", "A B"}, {"num ( as B | | { } ) + num ( as A | | { } ) ;", "B A"}, {"* one ( as A | | { } ) = num ( as B | | { } ) ;", "A B"},
		{"* one ( as A | | { } ) = num ( as B | | { } ) + num ( as C | | { } ) ; as A | | { } ;", "A B C A"}, {"as A | | { } ; * one ( one ( as B | | { } ) ) = num ( as A | | { as C | | { } ; } ) ; as C | | { } ;", "A B A C"},
		{"as A | | { as B | | { } ; as B | | { } ; } ; as C | | { } ;", "A C"}, {"if choose { as A | | { } ; } else { as B | | { } ; } while num ( as C | | { } ) == 1 { let x = as A | | { } ; }", "A B C A"}, {"let x = 1 ; x = num ( as A | | { } ) ; x = 2 ; as B | | { } ;", "A B"},
	} {
		w := read(t, head+"fn f ( ) { "+c.text+" }")
		jobs := lower.Jobs(w.table, w.env)
		d, e := lower.Lower(w.table, w.env, jobs[len(jobs)-1])
		var traits []string
		for i, im := range d.Impls {
			traits = append(traits, im.Trait)
			name := "f#" + string("0123456789"[i])
			if im.Head != name || d.Structs[i].Name != name || d.Jobs[i].Name != lower.Key(im.Trait, name, 0) {
				t.Errorf("%s: %d: %s %s %s", c.text, i, im.Head, d.Structs[i].Name, d.Jobs[i].Name)
			}
		}
		if e != (api.Err{}) || strings.Join(traits, " ") != c.want {
			t.Errorf("%s: %v %v", c.text, traits, e)
		}
	}
	// A closure in a closure is of that one's name.
	l := all(t, head+"fn f ( n : int ) { as A | | { as B | | { as C | | { return n ; } ; } ; as B | | { } ; } ; }")
	var names []string
	for _, p := range l {
		names = append(names, p.job.Name)
	}
	if got := strings.Join(names, "; "); got != "one; num; f; A f#0 0; B A f#0 0#0 0; C B A f#0 0#0 0#0 0; B A f#0 0#1 0" {
		t.Error(got)
	}
	if want := []lower.Caught{{Name: "n", Path: []int{-1, 0, -1}}}; !reflect.DeepEqual(l[5].job.Caught, want) {
		t.Error(l[5].job.Caught)
	}
}

// P18.1: what a closure does that it may not, with what it caught, is told of its own job, or where it is made.
func TestClosureErrors(t *testing.T) {
	for _, c := range []struct {
		text string
		code api.Errno
	}{
		{"let b = Box ( 1 ) ; as Call | a | { #b ; } ;", api.Moved}, {"let b = Box ( 1 ) ; as Mut | a | { let c = #b ; } ;", api.Moved}, {"let b = Box ( 1 ) ; as Once | a | { b ; } ;", api.OK},
		{"let n = 1 ; as Call | a | { #n = a ; } ;", api.Fixed}, {"let n = 1 ; as Call | a | { #& mut n ; } ;", api.Fixed}, {"let n = 1 ; as Mut | a | { & mut n ; n = 1 ; } ;", api.OK}, {"let n = 1 ; as Once | a | { n = 1 ; } ;", api.OK},
		{"let n = 1 ; as Call | a | { #as Mut | b | { n = 1 ; } ; } ;", api.Fixed}, {"let b = Box ( 1 ) ; as Mut | a | { #as Once | c | { b ; } ; } ;", api.Moved}, {"let b = Box ( 1 ) ; as Once | a | { as Once | c | { b ; } ; } ;", api.OK},
		{"as Call | a | { #x ; } ; let x = 1 ;", api.Unknown}, {"as Call | a | { #return true ; } ;", api.Kind}, {"let x = 1 ; as Call | a | { let x = 2 ; x = 3 ; } ;", api.OK}, {"as Call | a | { let x : #& 'a int ; } ;", api.Life}, {"let x = as Call | a | { #x . call ( 1 ) ; } ;", api.Unknown},
		{"as Call | a | { a #. call ( 1 ) ; } ;", api.Unknown}, {"as Call | a | { #main ; } ;", api.Unknown}, {"as Call | a | { return main ( ) ; } ;", api.OK}, {"let s = new S { b : Box ( 1 ) , n : 1 } ; as Call | a | { s #. put ( 1 ) ; } ;", api.Fixed}, {"let s = new S { b : Box ( 1 ) , n : 1 } ; as Mut | a | { s #. eat ( ) ; } ;", api.Moved},
	} {
		text, at := marked(lib + "fn main ( ) -> int { " + c.text + " }")
		w := read(t, text)
		_, e := w.pieces()
		if want := (api.Err{Code: c.code, At: at}); e != want {
			t.Errorf("%s: %v, want %v", c.text, e, want)
		}
	}
}
