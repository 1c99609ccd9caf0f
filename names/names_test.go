package names_test

import (
	"reflect"
	"slices"
	"strconv"
	"strings"
	"testing"

	"chattel/api"
	"chattel/names"
	"chattel/parse"
	"chattel/tree"
)

// program: the items of a text, which must be right by the grammar.
func program(t *testing.T, text string) []tree.Item {
	t.Helper()
	l, e := parse.Program(text)
	if e != (api.Err{}) {
		t.Fatalf("%q: %v", text, e)
	}
	return l
}

func table(t *testing.T, text string) *names.Table {
	t.Helper()
	x, _ := names.New(program(t, text))
	return x
}

// marked takes the marks @1, @2 and on out of a text: what stands behind each is a place.
func marked(text string) (string, map[string]api.Pos) {
	var plain strings.Builder
	places := map[string]api.Pos{}
	at := api.Pos{Line: 1, Col: 1}
	for i := 0; i < len(text); i++ {
		if text[i] == '@' {
			places[text[i+1:i+2]] = at
			i++
			continue
		}
		at.Col++
		if text[i] == '\n' {
			at = api.Pos{Line: at.Line + 1, Col: 1}
		}
		plain.WriteByte(text[i])
	}
	return plain.String(), places
}

// errs reads what is to be told, in order: "Life 1 Kind 2" is Life at the mark @1, then Kind at @2.
func errs(t *testing.T, told string, places map[string]api.Pos) (l []api.Err) {
	t.Helper()
	codes := map[string]api.Errno{"Unknown": api.Unknown, "Twice": api.Twice, "Kind": api.Kind, "Size": api.Size, "Life": api.Life}
	words := strings.Fields(told)
	for i := 0; i < len(words); i += 2 {
		code, place := codes[words[i]], places[words[i+1]]
		if code == api.OK || place == (api.Pos{}) {
			t.Fatalf("%q: no such word, or place", told)
		}
		l = append(l, api.Err{Code: code, At: place})
	}
	return l
}

// told is a text with marks, and what is told of it.
type told struct{ text, errs string }

func (x told) hold(t *testing.T) {
	t.Helper()
	text, places := marked(x.text)
	l := program(t, text)
	tab, got := names.New(l)
	if want := errs(t, x.errs, places); !slices.Equal(got, want) {
		t.Errorf("%s\ntells %v\nwant  %v", x.text, got, want)
	}
	if tab == nil || !reflect.DeepEqual(tab.Items, l) {
		t.Errorf("%s: other items", x.text)
	}
}

// right has all that heads may have, with nothing wrong.
const right = `
struct Unit { }
struct Pair < T , U > { a : T , b : U , unit : Unit }
struct View < 'a , 'b , T > { x : & 'a T , y : & 'b mut Pair < int , T > , z : & 'static ( ) , next : Box < View < 'a , 'b , T > > }
struct Any < 'a > { r : & 'a dyn Show + 'a , s : & 'a mut dyn Show , b : Box < dyn Show + 'static > , v : View < 'a , 'static , Box < Any < 'a > > > , f : f64 }
trait Show { fn show ( & self , x : int ) -> int ; fn take < 'a , 'b > ( & 'a mut self , x : & 'b int , y : & dyn Show + 'a ) -> & 'b int where 'a : 'b + 'static , 'static : 'a ; fn end ( self ) ; }
trait None { }
impl None for bool { }
impl None for f64 { }
impl None for Pair { }
impl Show for int { fn end ( self ) { } fn show ( & self , x : int ) -> int { return x ; } fn take < 'c , 'd > ( & 'c mut self , x : & 'd int , y : Unit ) -> & 'd int { abort ; } }
impl Show for View where T : Show + None { fn show ( & self , y : int ) -> int { return y ; } fn take < 'c , 'd > ( & 'a mut self , x : & 'b T , y : Box < dyn Show + 'c > ) -> View < 'c , 'd , T > where 'a : 'c + 'd , 'd : 'b { abort ; } fn end ( self ) { } }
fn show < 'a , 'b , T , U > ( x : & 'a T , y : View < 'a , 'b , U > , z : View < T > , w : & & mut dyn None ) -> Any where 'a : 'b , T : Show + None + 'a + 'static , U : 'b , T : None { abort ; }
fn Unit < T > ( T : T , x : T ) { }
fn main ( ) { let x : Nowhere < 'z > = 1 ; }
`

// P5.1: of a right program nothing is told, and P5.1's examples.
func TestRight(t *testing.T) {
	for _, x := range []told{
		{right, ""}, {"", ""},
		{"@1struct S { s : S }", "Size 1"},
		{"struct S { s : Box < S > }", ""},
	} {
		x.hold(t)
	}
}

// P5.1: items of one name.
func TestTwiceItems(t *testing.T) {
	for _, x := range []told{
		{"struct S { } @1struct S { } @2struct S { }", "Twice 1 Twice 2"},
		{"trait S { } @1trait S { }", "Twice 1"},
		{"struct S { } @1trait S { } @2struct S { }", "Twice 1 Twice 2"},
		{"trait S { } @1struct S { } @2trait S { }", "Twice 1 Twice 2"},
		{"fn f ( ) { }\n @1fn f ( x : int ) { }\n@2fn f ( ) { }", "Twice 1 Twice 2"},
		{"struct S { } fn S ( ) { } impl R for S { } trait R { } fn R ( ) { }", ""},
		{"trait R { } impl R for int { } impl R for bool { } @1impl R for int { } trait Q { } impl Q for int { }", "Twice 1"},
		{"@1impl R for S { } @2impl R for S { }", "Twice 2 Unknown 1 Unknown 1 Unknown 2 Unknown 2"},
		{"struct S { } impl R for S { } trait R { } struct R2 { } @1impl R for S { }", "Twice 1"},
		// What is in such an item is looked at, too.
		{"struct S { } @1struct S { x : @2T }", "Twice 1 Unknown 2"},
		{"fn f ( ) { } @1fn f ( x : @2T ) { }", "Twice 1 Unknown 2"},
		{"trait R { fn m ( self ) ; } impl R for int { fn m ( self ) { } } @1impl R for int { }", "Twice 1 Unknown 1"},
		// Such an item isn't found by its name.
		{"trait S { } @1struct S { } fn f ( x : @2S ) { }", "Twice 1 Unknown 2"},
		{"struct R { } @1trait R { } @2impl R for int { }", "Twice 1 Unknown 2"},
		{"trait S { } @1struct S { } @2impl S for S { }", "Twice 1 Unknown 2"},
		{"struct S { } @1struct S < T > { } fn f ( x : S , y : @2S < int > ) { }", "Twice 1 Kind 2"},
		{"trait R { } @1trait R { fn m ( self ) ; } impl R for int { }", "Twice 1"},
		{"trait S { } @1struct S { } fn f < S > ( x : S ) { }", "Twice 1"},
		// Of all items first of all.
		{"fn f ( x : @1T ) { } struct S { } @2struct S { }", "Twice 2 Unknown 1"},
	} {
		x.hold(t)
	}
}

// P5.1: what generics declare.
func TestGenerics(t *testing.T) {
	for _, x := range []told{
		{"@1struct S < 'a , 'a , 'b , 'a > { }", "Twice 1 Twice 1"},
		{"@1struct S < 'static > { } @2fn f < 'static , 'static , 'a , 'static > ( ) { }", "Twice 1 Twice 2 Twice 2 Twice 2"},
		{"@1struct S < T , T , U , T > { } @2fn f < 'a , T , T > ( ) { }", "Twice 1 Twice 1 Twice 2"},
		{"@1struct S < S > { x : S } @2fn f < A , S , B > ( ) { }", "Twice 1 Twice 2"},
		{"@1fn f < 'a , 'a , 'static , T , T , S > ( x : @2Q ) { } struct S { }", "Twice 1 Twice 1 Twice 1 Twice 1 Unknown 2"},
		{"@1fn f < S , S > ( ) { } struct S { }", "Twice 1 Twice 1 Twice 1"},
		// A type parameter may be called as a trait, or a function, is.
		{"trait R { } fn g < R , g , f > ( ) { } fn f ( ) { }", ""},
	} {
		x.hold(t)
	}
}

// P5.1: fields, and parameters.
func TestParams(t *testing.T) {
	for _, x := range []told{
		{"struct S { x : int , y : bool , @1x : f64 , @2x : int , @3y : ( ) }", "Twice 1 Twice 2 Twice 3"},
		{"fn f ( x : int , @1x : int ) { } struct S { x : int } fn x ( x : S ) { }", "Twice 1"},
		{"trait R { fn m ( self , x : int , @1x : int ) ; fn n ( self , x : int ) ; }", "Twice 1"},
		{"struct S { x : @1T , @2x : @3U , @4x : int }", "Unknown 1 Twice 2 Unknown 3 Twice 4"},
		{"fn f ( x : @1A , @2x : @3B ) -> @4C where @5D : E { }", "Unknown 1 Twice 2 Unknown 3 Unknown 4 Unknown 5 Unknown 5"},
		// A lifetime may be left out, but of a field.
		{"struct S { x : @1& int , y : @2& mut Box < @3& int > , z : & 'static int } fn f ( x : & int ) -> & mut int { } trait R { fn m ( & self , x : & int ) -> & int ; }", "Life 1 Life 2 Life 3"},
	} {
		x.hold(t)
	}
}

// P5.1: a trait's methods, and an impl's by themselves.
func TestMethods(t *testing.T) {
	for _, x := range []told{
		{"trait R { fn m ( self ) ; @1fn m ( & self ) ; fn n ( self ) ; @2fn m ( self ) ; }", "Twice 1 Twice 2"},
		{"trait R { @1fn m < 'a , 'a , 'static , 'b , 'a > ( self ) ; fn n < 'a > ( self ) ; }", "Twice 1 Twice 1 Twice 1"},
		{"trait R { @1fn m ( & 'a self ) ; fn n < 'a > ( & 'a self ) ; fn o ( & 'static mut self ) ; fn p ( & self ) ; @2fn q < 'b > ( & 'a mut self ) ; }", "Life 1 Life 2"},
		{"trait R { fn m ( self ) ; @1fn m < 'b , 'b > ( & 'a self , x : @2T , @3x : int ) -> @4T where @5'a : 'b ; }", "Twice 1 Twice 1 Life 1 Unknown 2 Twice 3 Unknown 4 Life 5"},
		// In a trait there are no type parameters.
		{"trait R { fn m ( self ) where @1T : R + 'static ; fn n < 'a > ( self ) where 'a : 'static ; fn o ( self , x : @2R ) ; }", "Unknown 1 Unknown 2"},
		// The struct's generics are an impl's, too; but an impl's type parameters are bound at its head alone.
		{"trait R { fn m ( self , x : int ) ; } struct S < 'a , T > { } impl R for S { @2fn m < 'b > ( & 'a self , x : & 'b T ) -> S < 'a , T > where 'b : 'a + 'static , @1T : R + 'a + 'c { } }", "Unknown 1 Life 1 Kind 2"},
		{"trait R { fn m ( self ) ; } struct S < 'a , T > { } impl R for S { @1fn m < 'b , 'a , 'b , 'static > ( self ) { } }", "Twice 1 Twice 1 Twice 1"},
		{"trait R { fn m ( self ) ; fn n ( self ) ; } struct S < 'a > { } impl R for S { fn m < 'b > ( self ) { } @1fn n ( self ) where @2'b : 'a { } }", "Life 2"},
		{"trait R { fn m ( & self ) ; } struct S < 'a , T > { } impl R for int { @1fn m ( & 'a self ) -> @2T { } }", "Life 1 Unknown 2"},
		{"trait R { fn m ( self ) ; } @1struct S < 'a , 'a > { } impl R for S { fn m < 'b > ( self ) -> & 'a int { } }", "Twice 1"},
	} {
		x.hold(t)
	}
}

// P5.1: an impl against its trait.
func TestImpls(t *testing.T) {
	const heads = "struct S < 'a , T > { } trait R { fn m ( & self , x : int ) -> int ; fn n ( self ) ; } trait E { } "
	for _, x := range []told{
		{heads + "impl R for S { fn n ( self ) { } fn m ( & 'a self , y : T ) { } }", ""},
		{heads + "@1impl E for Q { } @2impl E for T { } @3impl E for E { } impl E for bool { }", "Unknown 1 Unknown 2 Unknown 3"},
		{heads + "@1impl Q for S { fn m ( self ) { } } @2impl S for S { } @3impl T for int { }", "Unknown 1 Unknown 2 Unknown 3"},
		// Bounds: that they have lifetimes is told of all of them first; the struct's lifetimes aren't there.
		{heads + "impl E for S where @1T : E + 'static , @2U : E , @3T : Q + S + R , T : R , @4T : 'static + 'static { }", "Life 1 Life 4 Unknown 2 Unknown 3 Unknown 3"},
		{heads + "impl E for S where @1'static : 'static { }", "Life 1"},
		{heads + "impl E for S where @1'a : 'static , @2T : 'a { }", "Life 1 Life 2 Life 1 Life 2"},
		{heads + "@1impl E for Q where @2T : E { }", "Unknown 1 Unknown 2"},
		// Methods against the trait's: another self, or another number of parameters.
		{heads + "impl R for int { @1fn m ( self ) { } @2fn n ( & self ) { } @3fn o ( self ) { } }", "Kind 1 Kind 2 Unknown 3"},
		{heads + "impl R for int { @1fn m ( & self ) { } @2fn n ( self , x : int ) { } }", "Kind 1 Kind 2"},
		{heads + "impl R for int { @1fn m ( & mut self , x : int ) { } fn n ( self ) { } }", "Kind 1"},
		{heads + "impl R for int { @1fn m ( & self , x : int , y : int ) { } @2fn n ( & mut self ) { } }", "Kind 1 Kind 2"},
		{heads + "impl R for int { fn m ( & self , x : int ) { } fn n ( self ) { } @1fn m ( self ) { } @2fn o ( self ) { } @3fn o ( self ) { } }", "Twice 1 Twice 3 Kind 1 Unknown 2 Unknown 3"},
		// What isn't there, for each.
		{heads + "@1impl R for int { }", "Unknown 1 Unknown 1"},
		{heads + "@1impl R for int { fn m ( & self , x : int ) { } @2fn o ( self ) { } }", "Unknown 2 Unknown 1"},
		{heads + "@1impl R for int { @2fn n ( & self ) { } }", "Kind 2 Unknown 1"},
		{"trait R { fn m ( self ) ; @1fn m ( & self ) ; } @2impl R for int { } impl R for bool { fn m ( self ) { } } impl R for f64 { @3fn m ( & self ) { } }", "Twice 1 Unknown 2 Unknown 2 Kind 3"},
		// All of it, in order.
		{heads + "@1impl R for U where @2V : E + 'b { @3fn o ( & 'c self ) { } fn m ( & self , x : @4W ) { } }", "Unknown 1 Life 2 Unknown 2 Life 2 Life 3 Unknown 4 Unknown 3 Unknown 1"},
		{heads + "@1impl Q for U where @2V : P { @3fn o ( & 'c self ) { } }", "Unknown 1 Unknown 2 Unknown 2 Life 3 Unknown 1"},
	} {
		x.hold(t)
	}
}

// P5.1: what is wrong with types as they are written in heads.
func TestTypes(t *testing.T) {
	const heads = "struct A { } struct L < 'a > { } struct G < 'a , 'b , T , U > { } trait R { } "
	for _, x := range []told{
		// References.
		{heads + "fn f < 'a > ( x : & 'a int , y : @1& 'b int , z : & 'static mut int ) -> @2& 'c mut @3& 'd int { }", "Life 1 Life 2 Life 3"},
		{heads + "struct S < 'a > { x : & 'a int , y : @1& 'b int , z : @2& @3& 'c int }", "Life 1 Life 2 Life 3"},
		{heads + "fn f ( x : & @1Q , y : Box < @2Q > , z : & mut Box < & @3Q > ) { }", "Unknown 1 Unknown 2 Unknown 3"},
		// Dyn.
		{heads + "fn f ( x : @1dyn R , y : & dyn R , z : & mut dyn R , w : Box < dyn R > , v : & Box < dyn R > ) -> @2dyn R { }", "Kind 1 Kind 2"},
		{heads + "struct S < 'a > { x : @1dyn R , y : & 'a mut dyn R , z : Box < dyn R + 'a > , g : G < 'a , 'a , @2dyn R , Box < dyn R > > }", "Kind 1 Kind 2"},
		{heads + "fn f < 'a > ( x : & @1dyn Q , y : & @2dyn A , z : & dyn R + 'a , w : & dyn R + 'static , v : Box < @3dyn R + 'b > ) { }", "Unknown 1 Unknown 2 Life 3"},
		{heads + "fn f ( x : @1dyn Q + 'a ) { }", "Kind 1 Unknown 1 Life 1"},
		{heads + "fn f < R > ( x : & dyn R , y : & @1dyn T ) { }", "Unknown 1"},
		// Names.
		{heads + "fn f < 'a > ( x : @1Q , y : @2R , z : @3f , w : A , v : @4L < 'b > , u : @5G < 'b , 'c , int , @6Q > ) { }", "Unknown 1 Unknown 2 Unknown 3 Life 4 Life 5 Life 5 Unknown 6"},
		{heads + "fn f < 'a > ( x : @1A < int > , y : @2A < 'a > , z : @3L < int > , w : L < 'a > , v : @4L < 'a , 'a > , u : L ) { }", "Kind 1 Kind 2 Kind 3 Kind 4"},
		{heads + "fn f < 'a > ( x : @1G , y : G < int , int > , z : @2G < 'a , int , int > , w : G < 'a , 'static , int , int > , v : @3G < int > , u : @4G < 'a , 'a , 'a , int , int , int > ) { }", "Kind 1 Kind 2 Kind 3 Kind 4"},
		{heads + "struct S < 'a > { x : @1G < int , int > , y : @2L , z : L < 'a > , w : A , v : Box < @3L > , u : G < 'a , 'a , @4L , L < 'static > > }", "Kind 1 Kind 2 Kind 3 Kind 4"},
		{heads + "fn f < T > ( x : T , y : @1T < int > , z : @2T < 'static > , w : @3T < 'a , @4Q > ) { }", "Kind 1 Kind 2 Life 3 Unknown 4 Kind 3"},
		{heads + "fn f ( x : @1Q < 'a , @2P < @3R > , @4dyn R > ) { }", "Life 1 Unknown 3 Unknown 2 Kind 4 Unknown 1"},
		{heads + "fn f ( x : @1A < 'a , 'b , @2Q > ) { }", "Life 1 Life 1 Unknown 2 Kind 1"},
		// A type parameter hides a struct of its name.
		{heads + "@1fn f < A > ( x : @2A < int > ) { } @3fn g < G > ( x : G ) { } @4struct S < L > { x : L }", "Twice 1 Kind 2 Twice 3 Twice 4"},
		// Of one item nothing is there for another one.
		{heads + "struct S < 'a , T > { } fn f < 'b , U > ( x : @1T , y : @2& 'a U ) { } fn g ( x : @3U , y : @4& 'b int ) { }", "Unknown 1 Life 2 Unknown 3 Life 4"},
	} {
		x.hold(t)
	}
}

// P5.1: bounds.
func TestBounds(t *testing.T) {
	for _, x := range []told{
		{"trait R { } struct S { } fn f < 'a , T > ( ) where 'a : 'a + 'static , @1'b : 'a , @2U : R , T : R + 'a , @3T : Q + R + S + 'b + 'a + 'c , 'static : 'a { }", "Life 1 Unknown 2 Unknown 3 Unknown 3 Life 3 Life 3"},
		{"fn f ( ) where @1'a : 'b + 'c , @2T : R + 'a { }", "Life 1 Life 1 Life 1 Unknown 2 Unknown 2 Life 2"},
		{"struct S { } trait R { } fn f ( ) where @1S : R { }", "Unknown 1"},
		{"trait R { fn m < 'a > ( self ) where @1'b : 'a , @2'a : 'b , @3T : R + S + 'a + 'b ; }", "Life 1 Life 2 Unknown 3 Unknown 3 Life 3"},
	} {
		x.hold(t)
	}
}

// P5.1: structs that lie in themselves.
func TestSize(t *testing.T) {
	for _, x := range []told{
		{"@1struct A { x : B } @2struct B { x : C } @3struct C { x : A } struct D { x : A }", "Size 1 Size 2 Size 3"},
		{"struct D { x : A , y : E } struct E { } @1struct A { x : int , y : A }", "Size 1"},
		{"struct A { x : & 'static A , y : Box < A > , z : Box < P < A > > } struct P < T > { x : T }", ""},
		{"@1struct A { x : P < A > } struct P < T > { x : Box < T > }", "Size 1"},
		{"@1struct A { x : P < int , P < bool , A > > } struct P < T , U > { }", "Size 1"},
		{"struct A { x : P < Box < A > > } struct P < T > { x : T }", ""},
		{"@1struct A { x : P < B > } struct P < T > { } @2struct B { x : A } struct C { x : P < B > }", "Size 1 Size 2"},
		{"@1struct P < T > { x : P < P < T > > }", "Size 1"},
		// What has no struct of its name has, in angles, what it has.
		{"@1struct A { x : @2Q < A > }", "Unknown 2 Size 1"},
		{"@1struct A < T > { x : @2T < A < T > > }", "Kind 2 Size 1"},
		{"@1struct A { x : @2Q < @3P < B > > } @4struct B { x : A }", "Unknown 3 Unknown 2 Size 1 Size 4"},
		// A type parameter is no struct; a dyn isn't either.
		{"@1struct A < A > { x : A }", "Twice 1"},
		{"@1struct A < B > { x : B } struct B { x : A < int > }", "Twice 1"},
		{"trait R { } struct A { x : @1dyn R } @2struct R { x : A }", "Twice 2 Kind 1"},
		// What isn't found by its name lies in nothing, and nothing in it.
		{"struct S { } @1struct S { x : S }", "Twice 1"},
		{"@1struct S { x : S } @2struct S { } @3struct S { x : S }", "Twice 2 Twice 3 Size 1"},
		{"trait S { } @1struct S { x : @2S }", "Twice 1 Unknown 2"},
		{"struct S { x : B } @1struct S { } struct B { } @2struct B { x : S }", "Twice 1 Twice 2"},
		{"fn A ( ) { } @1struct A { x : A } @2trait A { }", "Twice 2 Size 1"},
		// Behind all else.
		{"@1struct A { x : A } fn f ( x : @2Q ) { } @3struct A { }", "Twice 3 Unknown 2 Size 1"},
	} {
		x.hold(t)
	}
}

// P5.1: all errors of a program, in the order that the chapter names.
func TestOrder(t *testing.T) {
	x := told{`fn f ( x : @1Q ) -> @2& 'a int where @3T : R { }
@4struct S < 'a , 'a > { x : @5& int , y : @6S < 'a > , @7y : S < 'a , 'a > }
  @8struct S { x : @9Q }
@aimpl R for S where @b'a : 'a { @cfn n < 'a > ( & 'b self ) { } }
trait R { fn m ( & self ) ; @dfn m ( self , x : @eQ ) ; }
@ftrait S { @gfn m ( & 'a self ) ; }
@himpl R for S { }`,
		"Twice 8 Twice f Twice h " +
			"Unknown 1 Life 2 Unknown 3 " +
			"Twice 4 Life 5 Kind 6 Twice 7 " +
			"Unknown 9 " +
			"Life b Life b Life b Twice c Life c Unknown c Unknown a Unknown a " +
			"Twice d Unknown e " +
			"Life g " +
			"Unknown h Unknown h " +
			"Size 4"}
	x.hold(t)
}

// P5.1: more lifetimes than layer 4 reads.
func TestManyLifetimes(t *testing.T) {
	var many []string
	for i := range 400 {
		many = append(many, "'a"+strconv.Itoa(i))
	}
	use := tree.Type{Kind: tree.TName, Name: "S", Lifes: slices.Clone(many), At: api.Pos{Line: 2, Col: 2}}
	items := func(declared []string) []tree.Item {
		return []tree.Item{
			{Kind: tree.IStruct, Name: "S", Gen: tree.Generics{Lifes: many}, At: api.Pos{Line: 1, Col: 1}},
			{Kind: tree.IFn, Name: "f", Gen: tree.Generics{Lifes: declared}, Fields: []tree.Param{{Name: "x", Type: use}}, At: api.Pos{Line: 3, Col: 3}},
		}
	}
	if _, got := names.New(items(many)); len(got) != 0 {
		t.Error(got)
	}
	if _, got := names.New(items(many[1:])); !slices.Equal(got, []api.Err{{Code: api.Life, At: use.At}}) {
		t.Error(got)
	}
	if _, got := names.New(items(append(slices.Clone(many), many[399]))); !slices.Equal(got, []api.Err{{Code: api.Twice, At: api.Pos{Line: 3, Col: 3}}}) {
		t.Error(got)
	}
	use.Lifes = use.Lifes[:399]
	if _, got := names.New(items(many)); !slices.Equal(got, []api.Err{{Code: api.Kind, At: use.At}}) {
		t.Error(got)
	}
}
