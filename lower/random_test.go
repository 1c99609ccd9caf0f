package lower_test

import (
	"math/rand"
	"strings"
	"testing"

	"chattel/heap"
	"chattel/num"
	"chattel/tree"
)

// writer writes random bodies that are reckoned in one order alone: what they change is read all about.
type writer struct {
	*rand.Rand
	loops int
}

func (w *writer) one(l ...string) string { return l[w.Intn(len(l))] }

// place: an int that is somewhere.
func (w *writer) place(deep int) string {
	if deep > 0 && w.Intn(5) == 0 {
		return w.one("* sel ( & mut "+w.place(deep-1)+" , "+w.int(deep-1)+" )", "( "+w.place(deep-1)+" )", "* & mut "+w.place(deep-1), "( & mut p ) . a", "* & mut * q")
	}
	return w.one("i", "j", "k", "p . a", "p . b", "* q", "* m", "y", "z", "r . a", "( * r ) . b", "* b . v")
}

func (w *writer) int(deep int) string {
	if deep == 0 || w.Intn(4) == 0 {
		return w.one(w.place(0), w.place(0), w.one("0", "1", "2", "7"))
	}
	e := func() string { return w.int(deep - 1) }
	p := func() string { return w.place(deep - 1) }
	switch w.Intn(16) {
	case 0, 1:
		return e() + " + " + e()
	case 2:
		return e() + " - ( " + e() + " )"
	case 3:
		return "- ( " + e() + " )"
	case 4, 5:
		return "inc ( & mut " + p() + " )"
	case 6:
		return "rd ( & " + w.one(p(), "( "+e()+" )") + " )"
	case 7, 8:
		return "mix ( " + e() + " , " + e() + " , " + e() + " )"
	case 9:
		return w.one("p", "r", "( & mut p )", "( * r )", "( & mut * r )") + " . put ( " + e() + " )"
	case 10:
		return w.one("p", "r", "( & p )", "( & * r )") + " . sum ( " + e() + " )"
	case 11:
		return "( " + p() + " ) . add ( " + e() + " )"
	case 12:
		return w.one("( new P { b : "+e()+" , a : "+e()+" } )", "( new P { a : "+e()+" , b : "+e()+" } )") + w.one(" . a", " . b", " . sum ( "+e()+" )", " . put ( "+e()+" )")
	case 13:
		return w.one("* Box ( "+e()+" )", "unbox ( Box ( "+e()+" ) )", "* & ( "+e()+" )")
	case 14:
		return w.one("c", "( & mut c )") + " . set ( " + e() + " )"
	}
	return w.one("lent ( & "+p()+" )", "own ( Box ( "+e()+" ) )")
}

func (w *writer) bool(deep int) string {
	if deep == 0 || w.Intn(5) == 0 {
		return w.one("true", "false", "choose")
	}
	switch w.Intn(5) {
	case 0:
		return "! ( " + w.bool(deep-1) + " )"
	case 1:
		return "( " + w.bool(deep-1) + " ) " + w.one("&&", "|") + " ( " + w.bool(deep-1) + " )"
	case 2:
		return "( " + w.bool(deep-1) + " ) == ( " + w.bool(deep-1) + " )"
	}
	return "( " + w.int(deep-1) + " ) " + w.one("<", "==") + " ( " + w.int(deep-1) + " )"
}

func (w *writer) stmt(deep int) string {
	e := func() string { return w.int(deep) }
	if deep > 0 && w.Intn(3) == 0 {
		switch w.Intn(5) {
		case 0:
			return "if " + w.bool(deep) + " { " + w.block(deep-1) + "} "
		case 1, 2:
			return "if " + w.bool(deep) + " { " + w.block(deep-1) + "} else { " + w.block(deep-1) + "} "
		case 3:
			return "{ " + w.block(deep-1) + "} "
		}
		w.loops++
		n := "w" + num.Dec(int64(w.loops))
		return "let " + n + " = 0 ; while ( " + n + " < 3 ) && ( " + w.bool(deep) + " ) { " + n + " = " + n + " + 1 ; " + w.block(deep-1) + "} "
	}
	switch w.Intn(12) {
	case 0:
		return "let " + w.one("i", "j", "k") + " = " + e() + " ; "
	case 1:
		return w.one("p", "* r") + " = new P { " + w.one("a : "+e()+" , b : "+e(), "b : "+e()+" , a : "+e()) + " } ; "
	case 2:
		return w.one("q = Box ( "+e()+" ) ; ", "b . v = Box ( "+e()+" ) ; ", "{ let t = q ; q = b . v ; b . v = t ; } ")
	case 3:
		return e() + " ; "
	case 4:
		if w.Intn(4) == 0 {
			return w.one("return "+e()+" ; ", "abort ; ")
		}
	case 5:
		return w.one("( new P { a : 1 , b : "+e()+" } ) . a", "* Box ( "+e()+" )", "7") + " = " + e() + " ; "
	}
	return w.place(deep) + " = " + e() + " ; "
}

func (w *writer) block(deep int) string {
	var b strings.Builder
	for range 1 + w.Intn(3) {
		b.WriteString(w.stmt(deep))
	}
	return b.String()
}

const (
	randomHead = `
struct P { a : int , b : int }
struct B { v : Box < int > }
trait Obj { fn put ( & mut self , n : int ) -> int ; fn sum ( & self , n : int ) -> int ; }
trait Add { fn add ( self , n : int ) -> int ; }
trait Mut { fn set ( & mut self , n : int ) -> int ; }
trait Show { fn show ( & self ) -> int ; }
impl Obj for P { fn put ( & mut self , n : int ) -> int { let old = self . a ; self . a = self . b + n ; self . b = old ; return old ; } fn sum ( & self , n : int ) -> int { return self . a + self . b + n ; } }
impl Add for int { fn add ( self , n : int ) -> int { return self + n + n ; } }
impl Show for int { fn show ( & self ) -> int { return * self + 1 ; } }
fn inc ( x : & mut int ) -> int { * x = * x + 1 ; return * x ; }
fn rd ( x : & int ) -> int { return * x ; }
fn mix ( a : int , b : int , c : int ) -> int { return a + a - b + c ; }
fn sel ( x : & mut int , n : int ) -> & mut int { * x = * x + n ; return & mut * x ; }
fn lent ( x : & dyn Show ) -> int { return x . show ( ) ; }
fn own ( x : Box < dyn Show > ) -> int { return x . show ( ) ; }
`
	randomAhead  = "let i = 1 ; let j = 2 ; let k = 3 ; let p = new P { a : 4 , b : 5 } ; let q = Box ( 6 ) ; let y = 7 ; let m = & mut y ; let z = 8 ; let c = as Mut | a | { z = z + a ; return z ; } ; let s = new P { a : 9 , b : 10 } ; let r = & mut s ; let b = new B { v : Box ( 11 ) } ; "
	randomBehind = "return mix ( mix ( i , j , k ) , p . sum ( * q ) + s . sum ( * b . v ) , mix ( y , z , 1 ) ) ; "
)

// said reckons such a body as its text says: variables, their parts and Boxes are cells.
type said struct {
	cells  []named // the last ones first are meant
	script []bool
}

type named struct {
	name string
	at   *int64
}

// ended is how a body ends ahead of its end.
type ended struct {
	value int64
	why   string
}

func (s *said) bind(name string, n int64) { s.cells = append(s.cells, named{name, &n}) }

func (s *said) find(name string) *named {
	for i := len(s.cells) - 1; ; i-- {
		if s.cells[i].name == name {
			return &s.cells[i]
		}
	}
}

// object: the cells of a struct, a part each.
func (s *said) object(e tree.Expr) (a, b *int64) {
	switch e.Kind {
	case tree.EStruct:
		parts := map[string]*int64{}
		for i, name := range e.Names {
			n := s.int(e.Args[i])
			parts[name] = &n
		}
		return parts["a"], parts["b"]
	case tree.EVar:
		name := map[string]string{"p": "p", "s": "s", "r": "s"}[e.Name]
		return s.find(name + ".a").at, s.find(name + ".b").at
	}
	return s.object(e.Args[0])
}

func (s *said) place(e tree.Expr) *int64 {
	switch e.Kind {
	case tree.EVar:
		return s.find(e.Name).at
	case tree.EField:
		a, b := s.object(e.Args[0])
		if e.Name == "a" {
			return a
		}
		return b
	case tree.EParen:
		return s.place(e.Args[0])
	case tree.EDeref:
		return s.target(e.Args[0])
	}
	n := s.int(e)
	return &n
}

// target: what a pointer points to.
func (s *said) target(e tree.Expr) *int64 {
	switch e.Kind {
	case tree.EVar:
		return s.find(map[string]string{"q": "q", "m": "y"}[e.Name]).at
	case tree.EField:
		return s.find("b.v").at
	case tree.ERef, tree.EParen:
		return s.place(e.Args[0])
	case tree.ECall:
		x := s.place(e.Args[0].Args[0])
		n := s.int(e.Args[1])
		*x = add(*x, n)
		return x
	}
	n := s.int(e.Args[0])
	return &n
}

func over(n int64, ok bool) int64 {
	if !ok {
		panic(ended{why: "over"})
	}
	return n
}

func add(a, b int64) int64 { return over(num.Add(a, b)) }

func sub(a, b int64) int64 { return over(num.Sub(a, b)) }

func (s *said) int(e tree.Expr) int64 {
	switch e.Kind {
	case tree.EInt:
		return int64(e.Val)
	case tree.EVar, tree.EField, tree.EDeref:
		return *s.place(e)
	case tree.EParen:
		return s.int(e.Args[0])
	case tree.EUn:
		return sub(0, s.int(e.Args[0]))
	case tree.EBin:
		a := s.int(e.Args[0])
		b := s.int(e.Args[1])
		if e.Name == "+" {
			return add(a, b)
		}
		return sub(a, b)
	case tree.EUnbox:
		return s.int(e.Args[0].Args[0])
	case tree.EMethod:
		return s.method(e)
	}
	return s.call(e)
}

func (s *said) call(e tree.Expr) int64 {
	switch e.Name {
	case "mix":
		a := s.int(e.Args[0])
		b := s.int(e.Args[1])
		c := s.int(e.Args[2])
		return add(sub(add(a, a), b), c)
	case "inc":
		x := s.place(e.Args[0].Args[0])
		*x = add(*x, 1)
		return *x
	case "rd":
		return *s.place(e.Args[0].Args[0])
	case "lent":
		return add(*s.place(e.Args[0].Args[0]), 1)
	}
	return add(s.int(e.Args[0].Args[0]), 1)
}

// method: where the object is first, what is there only behind the argument.
func (s *said) method(e tree.Expr) int64 {
	switch e.Name {
	case "add":
		x := s.place(e.Args[0])
		n := s.int(e.Args[1])
		return add(add(*x, n), n)
	case "set":
		n := s.int(e.Args[1])
		z := s.find("z").at
		*z = add(*z, n)
		return *z
	}
	a, b := s.object(e.Args[0])
	n := s.int(e.Args[1])
	if e.Name == "sum" {
		return add(add(*a, *b), n)
	}
	old := *a
	*a, *b = add(*b, n), old
	return old
}

func (s *said) bool(e tree.Expr) bool {
	switch {
	case e.Kind == tree.EBool:
		return e.Val == 1
	case e.Kind == tree.EChoose:
		if len(s.script) == 0 {
			return false
		}
		b := s.script[0]
		s.script = s.script[1:]
		return b
	case e.Kind == tree.EParen:
		return s.bool(e.Args[0])
	case e.Kind == tree.EUn:
		return !s.bool(e.Args[0])
	case e.Name == "<":
		a := s.int(e.Args[0])
		return a < s.int(e.Args[1])
	case e.Name == "==" && !truthful(e.Args[0]):
		a := s.int(e.Args[0])
		return a == s.int(e.Args[1])
	}
	a := s.bool(e.Args[0])
	b := s.bool(e.Args[1])
	return e.Name == "&&" && a && b || e.Name == "|" && (a || b) || e.Name == "==" && a == b
}

// truthful: is an expression a bool?
func truthful(e tree.Expr) bool {
	switch e.Kind {
	case tree.EBool, tree.EChoose:
		return true
	case tree.EParen:
		return truthful(e.Args[0])
	case tree.EUn:
		return e.Name == "!"
	case tree.EBin:
		return e.Name != "+" && e.Name != "-"
	}
	return false
}

func (s *said) block(l []tree.Stmt) {
	n := len(s.cells)
	for _, x := range l {
		s.stmt(x)
	}
	s.cells = s.cells[:n]
}

func (s *said) stmt(x tree.Stmt) {
	switch x.Kind {
	case tree.SLet:
		s.let(x)
	case tree.SSet:
		s.set(x.Place[0], x.E[0])
	case tree.SExpr:
		s.int(x.E[0])
	case tree.SIf:
		if s.bool(x.E[0]) {
			s.block(x.Body)
		} else {
			s.block(x.Else)
		}
	case tree.SWhile:
		for s.bool(x.E[0]) {
			s.block(x.Body)
		}
	case tree.SReturn:
		panic(ended{value: s.int(x.E[0])})
	case tree.SAbort:
		panic(ended{why: "abort"})
	default:
		s.block(x.Body)
	}
}

func (s *said) let(x tree.Stmt) {
	switch e := x.E[0]; x.Name {
	case "p", "s":
		a, b := s.object(e)
		s.bind(x.Name+".a", *a)
		s.bind(x.Name+".b", *b)
	case "q":
		s.bind("q", s.int(e.Args[0]))
	case "b":
		s.bind("b.v", s.int(e.Args[0].Args[0]))
	case "t":
		s.cells = append(s.cells, named{"t", s.find("q").at})
	case "m", "c", "r":
	default:
		s.bind(x.Name, s.int(e))
	}
}

func (s *said) set(place, e tree.Expr) {
	switch {
	case e.Kind == tree.EStruct:
		a, b := s.object(e)
		to, too := s.object(place)
		*to, *too = *a, *b
	case e.Kind == tree.EBox: // another cell: what was pointed to stays as it is
		n := s.int(e.Args[0])
		s.find(map[bool]string{true: "b.v", false: "q"}[place.Kind == tree.EField]).at = &n
	case e.Kind == tree.EVar && e.Name == "t":
		s.find("b.v").at = s.find("t").at
	case e.Kind == tree.EField && e.Name == "v":
		s.find("q").at = s.find("b.v").at
	default:
		n := s.int(e)
		*s.place(place) = n
	}
}

// reckon: how a body ends as its text says.
func (s *said) reckon(l []tree.Stmt) (r ended) {
	defer func() {
		switch x := recover().(type) {
		case ended:
			r = x
		default:
			panic(x)
		}
	}()
	s.block(l)
	return ended{}
}

// P18.1, P18.2: random bodies are lowered and typed, and mean what their text says.
func TestRandom(t *testing.T) {
	whys := map[string]int{}
	for seed := range int64(2500) {
		r := rand.New(rand.NewSource(seed))
		w := &writer{Rand: r}
		body := randomAhead + w.block(1+r.Intn(3)) + randomBehind
		prog := read(t, randomHead+"fn main ( ) -> int { "+body+"}")
		l, e := prog.pieces()
		if e.Code != 0 {
			if e.Code != 2 {
				t.Fatalf("%s: %v", body, e)
			}
			whys["limit"]++
			continue
		}
		for _, p := range l {
			if s := untyped(p); s != "" {
				t.Fatalf("%s: %s", body, s)
			}
		}
		for range 3 {
			script := []bool{r.Intn(2) == 0, r.Intn(2) == 0, r.Intn(2) == 0, r.Intn(2) == 0, r.Intn(2) == 0}
			s := &said{script: script}
			items := prog.items
			want := s.reckon(items[len(items)-1].Body)
			got := run(t, l, l[len(l)-1].env, false, script...)
			if got.why != want.why || got.why == "" && (got.value.Kind != heap.Int || int64(got.value.N) != want.value) {
				t.Fatalf("%d: %s: %+v, want %+v\n%s", seed, body, got, want, mainText(l))
			}
			whys[got.why]++
		}
	}
	t.Log(whys)
	if whys[""] < 4000 || whys["limit"] > 250 {
		t.Error(whys)
	}
}
