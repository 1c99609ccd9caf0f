package grab_test

import (
	"reflect"
	"slices"
	"strings"
	"testing"

	"chattel/api"
	"chattel/grab"
	"chattel/names"
	"chattel/parse"
	"chattel/pick"
	"chattel/sigs"
	"chattel/tree"
	"chattel/types"
)

type (
	T = types.Type
	E = tree.Expr
	S = tree.Stmt
)

var (
	integer = T{Kind: types.Int}
	boolean = T{Kind: types.Bool}
)

func box(a T) T { return T{Kind: types.Box, Args: []T{a}} }

func ref(a T) T { return T{Kind: types.Ref, Args: []T{a}} }

func mut(a T) T { return T{Kind: types.Ref, Mut: true, Args: []T{a}} }

func param(s string) T { return T{Kind: types.Param, Name: s} }

func str(s string) T { return T{Kind: types.Struct, Name: s} }

// picker: of the heads of a text in which nothing is wrong.
func picker(t *testing.T) pick.Picker {
	t.Helper()
	l, e := parse.Program(text)
	if e != (api.Err{}) {
		t.Fatal(e)
	}
	tab, wrong := names.New(l)
	if len(wrong) > 0 {
		t.Fatal(wrong)
	}
	env, wrong := sigs.Build(tab)
	if len(wrong) > 0 {
		t.Fatal(wrong)
	}
	return pick.Picker{Env: env, Bounds: []sigs.Bound{{Type: "P", Trait: "M"}}}
}

const text = `
struct In { b : Box < int > , n : int }
struct Out { in : In , r : & 'static In , p : & 'static int }
trait M { fn look ( & self ) -> int ; fn put ( & mut self , n : int ) ; fn eat ( self , n : int ) -> int ; }
trait N { fn look ( & self ) -> int ; }
impl M for In { fn look ( & self ) -> int { } fn put ( & mut self , n : int ) { } fn eat ( self , n : int ) -> int { } }
impl M for int { fn look ( & self ) -> int { } fn put ( & mut self , n : int ) { } fn eat ( self , n : int ) -> int { } }
impl M for Out { fn look ( & self ) -> int { } fn put ( & mut self , n : int ) { } fn eat ( self , n : int ) -> int { } }
impl N for Out { fn look ( & self ) -> int { } }
`

// vars are variables of all kinds; of the first a name that stands again.
func vars() []grab.Var {
	return []grab.Var{
		{"i", box(integer)}, {"i", integer}, {"j", integer}, {"b", box(integer)}, {"bb", box(box(integer))}, {"s", str("In")}, {"o", str("Out")},
		{"r", ref(str("In"))}, {"m", mut(str("In"))}, {"bs", box(str("In"))}, {"ri", ref(integer)}, {"mi", mut(integer)}, {"p", param("P")}, {"q", param("Q")},
		{"self", ref(str("Out"))}, {"none", T{}},
	}
}

func expr(t *testing.T, s string) E {
	t.Helper()
	e, wrong := parse.Expr(s)
	if wrong != (api.Err{}) {
		t.Fatal(s, wrong)
	}
	return e
}

// told: grabs as a text.
func told(l []grab.Grab) string {
	var out []string
	for _, g := range l {
		out = append(out, g.Name+" "+[]string{"?", "shared", "unique", "move"}[g.Mode])
	}
	return strings.Join(out, ", ")
}

// P17.1: the chapter's example.
func TestExample(t *testing.T) {
	l := grab.Find(pick.Picker{}, []grab.Var{{"x", box(integer)}, {"y", integer}}, expr(t, "as T | | { y = 1 ; f ( x ) ; }"))
	if !slices.Equal(l, []grab.Grab{{"y", grab.Unique}, {"x", grab.Move}}) {
		t.Error(l)
	}
}

// P17.1: what is had of variables by each expression and statement.
func TestFind(t *testing.T) {
	p := picker(t)
	for _, c := range [][2]string{
		// Values of places: by their own types, not by their variables'.
		{"i ;", "i shared"}, {"b ;", "b move"}, {"ri ;", "ri shared"}, {"mi ;", "mi move"}, {"p ;", "p move"}, {"none ;", "none move"},
		{"s ;", "s move"}, {"s . n ;", "s shared"}, {"s . b ;", "s move"}, {"* s . b ;", "s shared"}, {"( s . b ) ;", "s move"}, {"( * ( ( s ) . b ) ) ;", "s shared"},
		{"bs . n ;", "bs shared"}, {"bs . b ;", "bs move"}, {"* bb ;", "bb move"}, {"* * bb ;", "bb shared"}, {"o . in . n ;", "o shared"}, {"o . in ;", "o move"},
		{"o . r ;", "o shared"}, {"r . b ;", "r move"}, {"* r ;", "r move"}, {"* mi ;", "mi shared"}, {"self . in ;", "self move"},
		// What has no type is no more than shared.
		{"s . x ;", "s shared"}, {"* i ;", "i shared"}, {"* * * bb ;", "bb shared"}, {"x ;", ""}, {"x . b ;", ""},
		// What is lent.
		{"& b ;", "b shared"}, {"& mut b ;", "b unique"}, {"& s . b ;", "s shared"}, {"& mut ( s . b ) ;", "s unique"}, {"& mut * * bb ;", "bb unique"}, {"& mut s . x ;", "s unique"},
		{"& f ( b ) ;", "b move"}, {"& mut f ( b , i ) ;", "b move, i shared"}, {"& mut Box ( b ) ;", "b move"}, {"& & mut b ;", "b unique"}, {"& mut & b ;", "b shared"}, {"& ( & mut b ) ;", "b unique"},
		// Methods: by how they take their object.
		{"s . look ( ) ;", "s shared"}, {"s . put ( i ) ;", "s unique, i shared"}, {"s . eat ( i ) ;", "s move, i shared"}, {"i . eat ( j ) ;", "i shared, j shared"}, {"i . put ( j ) ;", "i unique, j shared"},
		{"r . put ( b ) ;", "r unique, b move"}, {"bs . eat ( ) ;", "bs move"}, {"ri . eat ( ) ;", "ri shared"}, {"mi . eat ( ) ;", "mi shared"}, {"p . eat ( ) ;", "p move"}, {"p . put ( 1 ) ;", "p unique"},
		{"b . eat ( ) ;", "b shared"}, {"bb . eat ( ) ;", "bb shared"}, {"o . in . eat ( ) ;", "o move"}, {"( o . in ) . put ( 1 ) ;", "o unique"}, {"o . in . n . eat ( ) ;", "o shared"},
		// Methods that aren't found, or more than one.
		{"s . none ( b ) ;", "s shared, b move"}, {"q . eat ( ) ;", "q shared"}, {"o . look ( ) ;", "o shared"}, {"o . eat ( ) ;", "o move"}, {"s . x . eat ( ) ;", "s shared"}, {"none . eat ( ) ;", "none shared"},
		// Objects that are no places.
		{"f ( b ) . put ( s ) ;", "b move, s move"}, {"( & mut b ) . put ( s . n ) ;", "b unique, s shared"}, {"f ( b ) . x . put ( ) ;", "b move"},
		// Others: all parts, in order.
		{"i + s . n ;", "i shared, s shared"}, {"s . n == i ;", "s shared, i shared"}, {"- i ;", "i shared"}, {"Box ( s ) ;", "s move"}, {"unbox ( b ) ;", "b move"}, {"unbox ( * bb ) ;", "bb move"},
		{"new In { n : i , b : b } ;", "i shared, b move"}, {"f ( b , s , i ) ;", "b move, s move, i shared"}, {"f ( b ) . x ;", "b move"}, {"* f ( b ) ;", "b move"}, {"( f ( b ) ) ;", "b move"}, {"choose ; 1 ; ( ) ;", ""},
		// The greatest of several, in the order in which each first comes.
		{"i ; b ; & mut i ;", "i unique, b move"}, {"& mut b ; b ; & b ;", "b move"}, {"& b ; s . b ; & mut b ;", "b unique, s move"}, {"f ( & mut s , s , & s ) ;", "s move"},
		// Statements: of a set the value first.
		{"i = j ;", "j shared, i unique"}, {"* b = s . n ;", "s shared, b unique"}, {"s . b = b ;", "b move, s unique"}, {"( i ) = 1 ;", "i unique"}, {"* f ( b ) = i ;", "i shared, b move"}, {"f ( b ) . x = 1 ;", "b move"},
		{"if i == 1 { b ; } else { s ; }", "i shared, b move, s move"}, {"while choose { & mut i ; }", "i unique"}, {"{ { b ; } }", "b move"}, {"return b ;", "b move"}, {"return ; abort ;", ""}, {"let x : int = i ;", "i shared"},
	} {
		if got := told(grab.Find(p, vars(), expr(t, "as T | | { "+c[0]+" }"))); got != c[1] {
			t.Errorf("%s: %s, want %s", c[0], got, c[1])
		}
	}
}

// P17.1: the closure's own variables aren't had from outside.
func TestOwn(t *testing.T) {
	p := picker(t)
	for _, c := range [][2]string{
		{"as T | i , b | { i ; b ; s ; }", "s move"}, {"as T | s | { s . put ( i ) ; & mut s ; s = b ; }", "i shared, b move"},
		{"as T | | { let i = b ; i ; s ; }", "b move, s move"}, {"as T | | { let i = i ; i = 1 ; }", "i shared"}, {"as T | | { i ; let i = 1 ; & mut i ; }", "i shared"},
		{"as T | | { { let i = 1 ; & mut i ; } i ; }", "i shared"}, {"as T | | { let i = 1 ; { & mut i ; { i = 2 ; } } if i == 1 { i ; } while i == 2 { i = 3 ; } }", ""},
		{"as T | | { if choose { let b = 1 ; b ; } else { b ; } }", "b move"}, {"as T | | { if choose { b ; } else { let b = 1 ; } & mut b ; }", "b move"}, {"as T | | { while choose { let b = 1 ; } & b ; }", "b shared"},
		{"as T | | { let i : int ; i = 1 ; let i = 2 ; i = 3 ; }", ""}, {"as T | | { self ; }", "self shared"},
		// Closures within: what is their own, or the outer one's, isn't had.
		{"as T | | { as T | | { b ; i = 1 ; } ; }", "b move, i unique"}, {"as T | i | { as T | b | { b ; i ; s ; } ; }", "s move"}, {"as T | | { as T | b | { b ; } ; b ; }", "b move"},
		{"as T | | { let i = 1 ; as T | | { i = 2 ; let b = 1 ; b ; } ; & b ; }", "b shared"}, {"as T | | { as T | | { let s = 1 ; } ; s . put ( 1 ) ; }", "s unique"}, {"as T | b | { as T | b | { b ; } ; b ; }", ""},
		{"as T | | { let c = as T | c | { & mut s ; } ; & s ; }", "s unique"}, {"as T | i , i | { as T | i | { } ; i ; }", ""},
		// Another expression has nothing.
		{"( as T | | { b ; } )", ""}, {"b", ""}, {"f ( b )", ""}, {"as T | | { }", ""},
	} {
		if got := told(grab.Find(p, vars(), expr(t, c[0]))); got != c[1] {
			t.Errorf("%s: %s, want %s", c[0], got, c[1])
		}
	}
}

// P17.1: a place's variable and type.
func TestRoot(t *testing.T) {
	p := picker(t)
	for _, c := range []struct {
		text, name string
		want       T
	}{
		{"i", "i", integer}, {"b", "b", box(integer)}, {"* b", "b", integer}, {"* * bb", "bb", integer}, {"( ( b ) )", "b", box(integer)}, {"s . b", "s", box(integer)}, {"* s . b", "s", integer},
		{"( * ( m ) ) . b", "m", box(integer)}, {"m . n", "m", integer}, {"o . in . b", "o", box(integer)}, {"self . in", "self", str("In")}, {"* o . p", "o", integer}, {"none", "none", T{}}, {"p", "p", param("P")},
	} {
		name, x, ok := grab.Root(p, vars(), expr(t, c.text))
		if !ok || name != c.name || !types.Equal(x, c.want) {
			t.Errorf("%s: %s %s %v", c.text, name, types.Text(x), ok)
		}
	}
	for _, c := range [][2]string{
		{"x", "x"}, {"* i", "i"}, {"s . x", "s"}, {"i . b", "i"}, {"* * b", "b"}, {"* p", "p"}, {"x . b", "x"}, {"* x", "x"}, {"s . x . n", "s"}, {"* none", "none"},
		{"1", ""}, {"f ( b )", ""}, {"f ( b ) . b", ""}, {"& b", ""}, {"* & b", ""}, {"( 1 )", ""}, {"Box ( b )", ""}, {"s . look ( )", ""}, {"choose", ""}, {"as T | | { }", ""}, {"( )", ""}, {"i + i", ""},
	} {
		if name, x, ok := grab.Root(p, vars(), expr(t, c[0])); ok || name != "" && name != c[1] || !reflect.DeepEqual(x, T{}) {
			t.Errorf("%s: %s %+v %v", c[0], name, x, ok)
		}
	}
}

// P17.1: the last variable of a name counts.
func TestLast(t *testing.T) {
	for _, c := range []struct {
		name string
		want T
		ok   bool
	}{{"i", integer, true}, {"b", box(integer), true}, {"none", T{}, true}, {"x", T{}, false}, {"", T{}, false}} {
		if x, ok := grab.Last(vars(), c.name); ok != c.ok || !reflect.DeepEqual(x, c.want) {
			t.Errorf("%s: %+v %v", c.name, x, ok)
		}
	}
	if x, ok := grab.Last([]grab.Var{{"", boolean}}, ""); !ok || x.Kind != types.Bool {
		t.Error("a name of no bytes is one")
	}
	if _, ok := grab.Last(nil, "i"); ok {
		t.Error("there is none")
	}
}
