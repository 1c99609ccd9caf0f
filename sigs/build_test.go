package sigs_test

import (
	"reflect"
	"slices"
	"strconv"
	"strings"
	"testing"

	"chattel/api"
	"chattel/names"
	"chattel/sigs"
	"chattel/tree"
	"chattel/types"
)

// P9.1: functions' signatures, with all that is left out of them.
func TestFns(t *testing.T) {
	for _, c := range []struct{ head, want string }{
		// The chapter's example.
		{"fn f ( x : & int , y : int ) -> & int", "1 ;  ;  ; &1<int> , int ; &1<int>"},
		{"fn f ( )", "0 ;  ;  ;  ; ()"},
		{"fn f ( x : int , y : bool , z : f64 , u : ( ) , v : Box < ( ) > ) -> Box < bool >", "0 ;  ;  ; int , bool , f64 , () , Box<()> ; Box<bool>"},
		// Declared ones stand ahead of those that are left out; types stand behind both.
		{"fn f < 'a , 'b > ( x : & 'b int , y : & 'a mut int )", "2 ;  ;  ; &2<int> , &1mut<int> ; ()"},
		{"fn f < 'a , T , U > ( x : & T , y : & 'a mut U , z : & mut Of < U > )", "3 T U ;  ;  ; &2<T?4> , &1mut<U?5> , &3mut<Of<U?5>> ; ()"},
		{"fn f < T > ( x : T ) -> T", "0 T ;  ;  ; T?1 ; T?1"},
		{"fn f < 'a , 'b , 'c > ( )", "3 ;  ;  ;  ; ()"},
		{"fn f ( x : & 'static int ) -> & 'static int", "0 ;  ;  ; &0<int> ; &0<int>"},
		// Those that are left out are numbered in the order of the text.
		{"fn f ( x : & & mut int , y : & int )", "3 ;  ;  ; &1<&2mut<int>> , &3<int> ; ()"},
		{"fn f ( x : & Two , y : Two )", "5 ;  ;  ; &1<Two'2'3> , Two'4'5 ; ()"},
		{"fn f ( x : View < & int > , y : Of < & Two > )", "6 ;  ;  ; View'1'2<&3<int>> , Of<&4<Two'5'6>> ; ()"},
		{"fn f < 'a > ( x : Two < 'a , 'static > , y : & One < 'a > , z : Two < 'a , 'a > )", "2 ;  ;  ; Two'1'0 , &2<One'1> , Two'1'1 ; ()"},
		{"fn f < 'a > ( x : View < 'static , 'a , & int > )", "2 ;  ;  ; View'0'1<&2<int>> ; ()"},
		// A dyn's lifetime.
		{"fn f < 'a , 'b > ( x : & 'a dyn Q , y : & 'a dyn Q + 'b , z : & mut dyn Q , u : & dyn Q + 'static )", "4 ;  ;  ; &1<dyn Q+1> , &1<dyn Q+2> , &3mut<dyn Q+3> , &4<dyn Q+0> ; ()"},
		{"fn f < 'a > ( x : Box < dyn Q > , y : & 'a Box < dyn Q > , z : Box < & 'a dyn Q > , u : Box < dyn Q + 'a > , v : Of < Box < dyn Q > > , w : & 'a Of < Box < dyn R > > )", "1 ;  ;  ; Box<dyn Q+0> , &1<Box<dyn Q+0>> , Box<&1<dyn Q+1>> , Box<dyn Q+1> , Of<Box<dyn Q+0>> , &1<Of<Box<dyn R+0>>> ; ()"},
		{"fn f ( x : & dyn Q ) -> & mut dyn Q", "1 ;  ;  ; &1<dyn Q+1> ; &1mut<dyn Q+1>"},
		{"fn f ( x : & int ) -> Box < dyn Q >", "1 ;  ;  ; &1<int> ; Box<dyn Q+0>"},
		{"fn f ( x : Box < dyn Q > ) -> Box < dyn R >", "0 ;  ;  ; Box<dyn Q+0> ; Box<dyn R+0>"},
		// What is answered has the one lifetime that stands in the parameters.
		{"fn f < 'a , 'b > ( x : & 'b int ) -> Two", "2 ;  ;  ; &2<int> ; Two'2'2"},
		{"fn f < 'a > ( x : & 'a int , y : Two < 'a , 'static > , z : Box < dyn Q + 'a > ) -> & & int", "1 ;  ;  ; &1<int> , Two'1'0 , Box<dyn Q+1> ; &1<&1<int>>"},
		{"fn f < T > ( x : & 'static int , y : T , z : Of < & T > ) -> View < & T >", "1 T ;  ;  ; &0<int> , T?2 , Of<&1<T?2>> ; View'1'1<&1<T?2>>"},
		{"fn f ( x : One ) -> & int", "1 ;  ;  ; One'1 ; &1<int>"},
		{"fn f < 'a , 'b , T > ( x : & 'a int , y : & 'b int ) -> Two < 'b , 'a >", "2 T ;  ;  ; &1<int> , &2<int> ; Two'2'1"},
		{"fn f ( x : & int , y : & int ) -> Box < dyn Q >", "2 ;  ;  ; &1<int> , &2<int> ; Box<dyn Q+0>"},
		// Bounds, in order.
		{"fn f < 'a , 'b , 'c , T , U > ( x : & T ) where 'c : 'a + 'static + 'b , U : R + Q + 'a , T : Q , 'static : 'c , T : 'static + 'c , 'a : 'a", "4 T U ; 3>1 3>0 3>2 6>1 0>3 5>0 5>3 1>1 ; U:R U:Q T:Q ; &4<T?5> ; ()"},
		// A type parameter is no struct.
		{"fn f < S > ( x : S , y : One ) -> Of < S >", "1 S ;  ;  ; S?2 , One'1 ; Of<S?2>"},
	} {
		e := heads(t, ahead+c.head+" { abort ; }")
		f, ok := e.Fn("f")
		if got := show(f.Sig); !ok || got != c.want {
			t.Errorf("%s: %s\nwant %s", c.head, got, c.want)
		}
	}
}

// P9.1: structs, traits, impls and functions stand in the order of the text, each with all of its head.
func TestHeads(t *testing.T) {
	e := heads(t, `fn g ( ) { }
impl M for Pair where U : Q + M , T : Q { fn two < 'z > ( & 'z mut self , x : & 'c T , y : & U ) -> & Later where 'z : 'c { abort ; }
  fn one ( self ) { } }
struct Pair < 'c , 'd , T , U > { x : & 'd U , y : Box < Later < 'd , 'static > > , z : & 'c T , w : & 'c dyn Q , v : Box < dyn Q > }
trait Q { }
struct Later < 'a , 'b > { x : & 'a int , y : Box < dyn M + 'b > }
trait M { fn two < 'z > ( & 'z mut self , x : & int , y : & int ) -> & Later ; fn one ( self ) ; }
impl Q for f64 { }
fn f ( ) { }`)
	if l := e.Structs; len(l) != 2 || l[0].Name != "Pair" || l[0].Lifes != 2 || !slices.Equal(l[0].Types, []string{"T", "U"}) || l[1].Name != "Later" || l[1].Lifes != 2 || len(l[1].Types) != 0 {
		t.Fatal(l)
	}
	var fields []string
	for _, f := range slices.Concat(e.Structs[0].Fields, e.Structs[1].Fields) {
		fields = append(fields, f.Name+" "+types.Text(f.Type))
	}
	if want := []string{"x &2<U?4>", "y Box<Later'2'0>", "z &1<T?3>", "w &1<dyn Q+1>", "v Box<dyn Q+0>", "x &1<int>", "y Box<dyn M+2>"}; !slices.Equal(fields, want) {
		t.Errorf("%q", fields)
	}
	if l := e.Traits; len(l) != 2 || l[0].Name != "Q" || len(l[0].Methods) != 0 || l[1].Name != "M" || len(l[1].Methods) != 2 {
		t.Fatal(l)
	}
	// A trait's methods have lifetimes of their own alone, an impl's stand behind the struct's.
	two, one := e.Traits[1].Methods[0], e.Traits[1].Methods[1]
	if got := showMethod(two); got != "two ; 3 ; 1 ; 3 ;  ;  ; &2<int> , &3<int> ; &1<Later'1'1>" || two.At.Line != 7 || two.At.Col != 11 {
		t.Error(got, two.At)
	}
	if got := showMethod(one); got != "one ; 1 ; 0 ; 0 ;  ;  ;  ; ()" || one.At.Line != 7 || one.At.Col == 0 {
		t.Error(got, one.At)
	}
	if l := e.Impls; len(l) != 2 || l[1].Trait != "Q" || l[1].Head != "f64" || len(l[1].Bounds)+len(l[1].Methods) != 0 || l[1].At != (api.Pos{Line: 8, Col: 1}) {
		t.Fatal(l)
	}
	im := e.Impls[0]
	if im.Trait != "M" || im.Head != "Pair" || im.At != (api.Pos{Line: 2, Col: 1}) || !slices.Equal(im.Bounds, []sigs.Bound{{Type: "U", Trait: "Q"}, {Type: "U", Trait: "M"}, {Type: "T", Trait: "Q"}}) || len(im.Methods) != 2 {
		t.Fatal(im)
	}
	if got := showMethod(im.Methods[0]); got != "two ; 3 ; 3 ; 4 T U ; 3>1 ;  ; &1<T?5> , &4<U?6> ; &3<Later'3'3>" || im.Methods[0].At.Line != 2 {
		t.Error(got)
	}
	if got := showMethod(im.Methods[1]); got != "one ; 1 ; 0 ; 2 T U ;  ;  ;  ; ()" || im.Methods[1].At != (api.Pos{Line: 3, Col: 3}) {
		t.Error(got)
	}
	if l := e.Fns; len(l) != 2 || l[0].Name != "g" || l[0].At.Line != 1 || l[1].Name != "f" || l[1].At.Line != 9 {
		t.Error(l)
	}
	if e.Ways == nil || len(e.Ways["Pair"]) != 4 {
		t.Error(e.Ways)
	}
}

// P9.1: how a method takes its self, and what it answers then.
func TestSelfs(t *testing.T) {
	for _, c := range []struct{ head, want string }{
		{"fn m ( & self ) -> & int", "m ; 2 ; 1 ; 1 ;  ;  ;  ; &1<int>"},
		{"fn m ( & mut self , x : & int ) -> Two", "m ; 3 ; 1 ; 2 ;  ;  ; &2<int> ; Two'1'1"},
		{"fn m < 'a , 'b > ( & 'b self , x : & 'a int , y : & int ) -> & int", "m ; 2 ; 2 ; 3 ;  ;  ; &1<int> , &3<int> ; &2<int>"},
		{"fn m < 'a > ( & self , x : & 'a int ) -> & dyn Q", "m ; 2 ; 2 ; 2 ;  ;  ; &1<int> ; &2<dyn Q+2>"},
		{"fn m ( & 'static mut self , x : & int ) -> & int", "m ; 3 ; 0 ; 1 ;  ;  ; &1<int> ; &0<int>"},
		{"fn m ( self , x : & int ) -> & int", "m ; 1 ; 0 ; 1 ;  ;  ; &1<int> ; &1<int>"},
		{"fn m < 'a > ( self , x : & 'a int , y : & 'a int ) -> Two where 'a : 'static", "m ; 1 ; 0 ; 1 ; 1>0 ;  ; &1<int> , &1<int> ; Two'1'1"},
		{"fn m ( self )", "m ; 1 ; 0 ; 0 ;  ;  ;  ; ()"},
	} {
		e := heads(t, ahead+"trait M { "+c.head+" ; }")
		x, _ := e.Trait("M")
		if got := showMethod(x.Methods[0]); got != c.want {
			t.Errorf("%s: %s\nwant %s", c.head, got, c.want)
		}
	}
}

// P9.1: in an impl the struct's lifetimes count as declared ones, but its self as no parameter.
func TestImplSelfs(t *testing.T) {
	for _, c := range []struct{ asked, head, want string }{
		{"fn m ( & self )", "fn m ( & self ) -> & int", "m ; 2 ; 3 ; 3 T ;  ;  ;  ; &3<int>"},
		{"fn m ( & self , x : int , y : int )", "fn m < 'c > ( & 'b self , x : & T , y : & 'c T ) -> & T", "m ; 2 ; 2 ; 4 T ;  ;  ; &4<T?5> , &3<T?5> ; &2<T?5>"},
		{"fn m ( self , x : int , y : int )", "fn m ( self , x : & 'b int , y : T ) -> & T", "m ; 1 ; 0 ; 2 T ;  ;  ; &2<int> , T?3 ; &2<T?3>"},
		{"fn m ( & mut self )", "fn m < 'c > ( & 'c mut self ) where 'c : 'a + 'b , 'static : 'c", "m ; 3 ; 3 ; 3 T ; 3>1 3>2 0>3 ;  ;  ; ()"},
	} {
		e := heads(t, ahead+"trait M { "+c.asked+" ; } impl M for View { "+c.head+" { abort ; } }")
		if got := showMethod(e.Impls[0].Methods[0]); got != c.want {
			t.Errorf("%s: %s\nwant %s", c.head, got, c.want)
		}
	}
	tells(t, ahead+"trait M { fn m ( self ) ; } impl M for One { fn m ( self ) -> @1& int { abort ; } }", "Life 1")
}

// marked takes the marks @1, @2 and on out of a text: what stands behind each is a place.
func marked(text string) (string, map[string]api.Pos) {
	var plain strings.Builder
	places := map[string]api.Pos{}
	at := api.Pos{Line: 1, Col: 1}
	for i := 0; i < len(text); i++ {
		if text[i] == '@' {
			places[text[i+1:i+2]] = at
			i++
			continue
		}
		at.Col++
		if text[i] == '\n' {
			at = api.Pos{Line: at.Line + 1, Col: 1}
		}
		plain.WriteByte(text[i])
	}
	return plain.String(), places
}

// tells: a text with marks is right by its items, and these errors are told of it: "Life 1 Limit 2" is Life at the mark @1, then Limit at @2.
func tells(t *testing.T, text, want string) *sigs.Env {
	t.Helper()
	plain, places := marked(text)
	e, got := sigs.Build(table(t, plain))
	var errs []api.Err
	words := strings.Fields(want)
	for i := 0; i < len(words); i += 2 {
		code := map[string]api.Errno{"Life": api.Life, "Limit": api.Limit}[words[i]]
		if code == api.OK || places[words[i+1]] == (api.Pos{}) {
			t.Fatalf("%q: no such word, or place", want)
		}
		errs = append(errs, api.Err{Code: code, At: places[words[i+1]]})
	}
	if !slices.Equal(got, errs) {
		t.Errorf("%s\ntells %v\nwant  %v", text, got, errs)
	}
	if e == nil {
		t.Fatal("no heads")
	}
	return e
}

// P9.1: a lifetime that is left out of what is answered, where it isn't told: Life, and 0.
func TestLife(t *testing.T) {
	for _, c := range []struct{ head, errs, want string }{
		{"fn f ( ) -> @1& int", "Life 1", "0 ;  ;  ;  ; &0<int>"},
		{"fn f ( x : & int , y : & int ) -> @1& int", "Life 1", "2 ;  ;  ; &1<int> , &2<int> ; &0<int>"},
		{"fn f < 'a > ( x : & 'a int , y : & int ) -> @1& int", "Life 1", "2 ;  ;  ; &1<int> , &2<int> ; &0<int>"},
		{"fn f ( x : & & int ) -> @1& int", "Life 1", "2 ;  ;  ; &1<&2<int>> ; &0<int>"},
		{"fn f ( x : & 'static int ) -> @1& int", "Life 1", "0 ;  ;  ; &0<int> ; &0<int>"},
		{"fn f ( x : Box < dyn Q > ) -> @1& int", "Life 1", "0 ;  ;  ; Box<dyn Q+0> ; &0<int>"},
		{"fn f < T > ( x : T ) -> @1& T", "Life 1", "0 T ;  ;  ; T?1 ; &0<T?1>"},
		{"fn f < 'a > ( ) -> @1& int", "Life 1", "1 ;  ;  ;  ; &0<int>"},
		{"fn f ( x : Two ) -> @1One", "Life 1", "2 ;  ;  ; Two'1'2 ; One'0"},
		// Each time, and at the whole type.
		{"fn f ( ) -> @1Of < & Two >", "Life 1 Life 1 Life 1", "0 ;  ;  ;  ; Of<&0<Two'0'0>>"},
		{"fn f < 'a > ( ) -> @1Box < View < 'a , 'static , & 'a & int > >", "Life 1", "1 ;  ;  ;  ; Box<View'1'0<&1<&0<int>>>>"},
		// A dyn has its reference's: that is told once.
		{"fn f ( ) -> @1& dyn Q", "Life 1", "0 ;  ;  ;  ; &0<dyn Q+0>"},
		{"fn f ( ) -> & 'static dyn Q", "", "0 ;  ;  ;  ; &0<dyn Q+0>"},
	} {
		e := tells(t, ahead+c.head+" { abort ; }", c.errs)
		f, _ := e.Fn("f")
		if got := show(f.Sig); got != c.want {
			t.Errorf("%s: %s\nwant %s", c.head, got, c.want)
		}
	}
}

// P9.1: errors stand in the order of the text, whatever kinds of items they are of.
func TestErrorsInOrder(t *testing.T) {
	tells(t, ahead+`
fn f ( ) -> @1& int { abort ; }
impl M for One { fn a ( self ) -> @2& int { abort ; } fn b ( self , x : & int ) -> & int { abort ; }
  fn c ( self , x : One ) -> @3Two { abort ; } fn d ( & self ) -> & int { abort ; } }
trait M { fn a ( self ) -> @4& int ; fn b ( self , x : & int ) -> & int ; fn c ( self , x : Two ) -> @5Two ; fn d ( & self ) -> & int ; }
fn g ( x : & int , y : Two ) -> @6& int { abort ; }
impl M for int { fn d ( & self ) -> & int { abort ; } fn c ( self , x : One ) -> Two { abort ; } fn a ( self ) -> @7One { abort ; } fn b ( self , x : & int ) -> & int { abort ; } }
`, "Life 1 Life 2 Life 4 Life 5 Life 5 Life 6 Life 7")
}

// nest: a type with so many lifetimes that are left out, by structs with 7 of them that have one in them.
func nest(n int) string {
	if n < 7 {
		return "L" + strconv.Itoa(n)
	}
	return "W < " + nest(n-7) + " >"
}

// structs L0 to L6 have as many lifetimes, W has 7 and a type.
func nestStructs() string {
	text := ""
	lifes := []string{"'a", "'b", "'c", "'d", "'e", "'f", "'g"}
	for n := range 7 {
		text += "struct L" + strconv.Itoa(n) + " "
		if n > 0 {
			text += "< " + strings.Join(lifes[:n], " , ") + " > "
		}
		text += "{ }\n"
	}
	return text + "struct W < " + strings.Join(lifes, " , ") + " , T > { x : T }\n"
}

// P9.1: Limit: more than 300 regions, at the item or the method.
func TestLimit(t *testing.T) {
	// fn takes 7 parameters with 42 lifetimes and one with n: 294 and n of them in all.
	takes := func(n int) string {
		text := ""
		for i := range 7 {
			text += "x" + strconv.Itoa(i) + " : " + nest(42) + " , "
		}
		return text + "y : " + nest(n)
	}
	for _, c := range []struct{ text, errs string }{
		{"fn f ( " + takes(6) + " ) { }", ""},
		{"@1fn f ( " + takes(7) + " ) { }", "Limit 1"},
		{"fn f < T > ( " + takes(5) + " ) { }", ""},
		{"fn g ( ) { } @1fn f < T > ( " + takes(6) + " ) { }", "Limit 1"},
		{"fn f < 'a , 'b , T > ( " + takes(3) + " ) { }", ""},
		{"@1fn f < 'a , 'b , T > ( " + takes(4) + " ) { }", "Limit 1"},
		{"trait M { fn m ( & self , " + takes(5) + " ) -> & int ; }", ""},
		{"trait M { fn n ( self ) ; @1fn m ( & self , " + takes(6) + " ) -> & int ; }", "Limit 1"},
		{"trait M { @1fn m ( self , " + takes(7) + " ) ; } impl M for W { @2fn m ( self , " + takes(0) + " ) { } } impl M for L6 { fn m ( self , " + takes(0) + " ) { } } impl M for int { @3fn m ( self , " + takes(9) + " ) { } }", "Limit 1 Limit 2 Limit 3"},
		// Life, then Limit of one head.
		{"@1fn f ( " + takes(7) + " ) -> @2& int { abort ; }", "Life 2 Limit 1"},
	} {
		e := tells(t, nestStructs()+c.text, c.errs)
		if f, ok := e.Fn("f"); ok && (e.Known(f.Sig) == nil) != strings.Contains(c.errs, "Limit") {
			t.Error(sigs.Count(f.Sig))
		}
	}
}

// P9.1: a struct may have more lifetimes in its angles than a text may have.
func TestManyLifes(t *testing.T) {
	var lifes []string
	for i := range 301 {
		lifes = append(lifes, "'a"+strconv.Itoa(i))
	}
	big := func(n int) tree.Item {
		return tree.Item{Kind: tree.IStruct, Name: "Big", Gen: tree.Generics{Lifes: lifes[:n]}, Fields: []tree.Param{{Name: "x", Type: tree.Type{Kind: tree.TRef, Life: lifes[n-1], Args: []tree.Type{{Kind: tree.TInt}}}}}}
	}
	takes := tree.Item{Kind: tree.IFn, Name: "f", Fields: []tree.Param{{Name: "x", Type: tree.Type{Kind: tree.TName, Name: "Big"}}}, At: api.Pos{Line: 7, Col: 8}}
	declares := tree.Item{Kind: tree.IFn, Name: "g", Gen: tree.Generics{Lifes: lifes}, At: api.Pos{Line: 9, Col: 1}}
	for n, want := range map[int][]api.Err{300: nil, 301: {{Code: api.Limit, At: takes.At}}} {
		tab, wrong := names.New([]tree.Item{takes, big(n), declares})
		e, got := sigs.Build(tab)
		if len(wrong) > 0 || !slices.Equal(got, append(want, api.Err{Code: api.Limit, At: declares.At})) {
			t.Error(n, wrong, got)
		}
		if f, _ := e.Fn("f"); f.Sig.Lifes != n || len(f.Sig.Params[0].Regions) != n || f.Sig.Params[0].Regions[n-1] != n {
			t.Error(f)
		}
	}
}

// P9.1: of nil nothing; of a table without items no heads.
func TestBuildNone(t *testing.T) {
	if e, l := sigs.Build(nil); e != nil || l != nil {
		t.Error(e, l)
	}
	for _, tab := range []*names.Table{{}, table(t, "")} {
		e, l := sigs.Build(tab)
		if e == nil || len(l) != 0 || len(e.Structs)+len(e.Traits)+len(e.Impls)+len(e.Fns)+len(e.Needs)+len(e.Ways) != 0 {
			t.Error(e, l)
		}
	}
}

// P9.1 (rules 4 and 5): items aren't changed, nor kept; the same comes of the same.
func TestBuildNewMemory(t *testing.T) {
	text := ahead + "impl Q for View where T : Q { } fn f < 'a , T > ( x : & 'a T , y : View < T > ) -> & 'a T where T : Q + 'a { abort ; }"
	tab, same := table(t, text), table(t, text)
	e, _ := sigs.Build(tab)
	f, _ := e.Fn("f")
	f.Sig.Types[0], f.Sig.Bounds[0], f.Sig.Outs[0] = "", sigs.Bound{}, [2]int{}
	e.Structs[2].Types[0], e.Structs[3].Fields = "", nil
	e.Structs[1].Fields[0].Type.Args[0].Kind = 77
	e.Impls[0].Bounds[0].Type = ""
	if !reflect.DeepEqual(tab.Items, same.Items) {
		t.Error("changed")
	}
	again, _ := sigs.Build(tab)
	other, _ := sigs.Build(same)
	if !reflect.DeepEqual(again, other) {
		t.Error("not the same")
	}
}

// P9.1 (rule 6): items that aren't right don't make it panic.
func TestBuildOdd(t *testing.T) {
	odd := []tree.Type{{}, {Kind: tree.TRef}, {Kind: tree.TBox}, {Kind: 77, Args: []tree.Type{{Kind: tree.TName}}}, {Kind: tree.TName, Name: "S", Lifes: []string{"", "'q"}}, {Kind: tree.TName, Name: "Nowhere"}, {Kind: -1}, {Kind: tree.TDyn, Life: "'q"}, {Kind: tree.TRef, Args: []tree.Type{{Kind: tree.TRef}, {Kind: tree.TDyn}}}}
	where := []tree.Bound{{}, {Name: "'q", Traits: []string{"Q"}, Lifes: []string{"'r", ""}}, {Name: "T", Lifes: []string{"'static"}}}
	for _, x := range odd {
		p := []tree.Param{{Name: "x", Type: x}, {Type: x}}
		m := []tree.Method{{}, {Recv: tree.Own, Life: "'q", Lifes: []string{"'a", "'a"}, Params: p, Ret: x, Where: where}, {Recv: 9, Params: p, Ret: x}}
		g := tree.Generics{Lifes: []string{"'a", "'static", "'a"}, Types: []string{"T", "T", "S"}}
		l := []tree.Item{{}, {Kind: 9, Fields: p}, {Kind: tree.IStruct, Name: "S", Gen: g, Fields: p}, {Kind: tree.IStruct, Name: "S", Fields: p}, {Kind: tree.ITrait, Name: "S", Methods: m}, {Kind: tree.IImpl, Head: "S", Where: where, Methods: m}, {Kind: tree.IImpl, Head: "Nowhere", Methods: m}, {Kind: tree.IFn, Gen: g, Fields: p, Ret: x, Where: where}}
		tab, _ := names.New(l)
		e, _ := sigs.Build(tab)
		e.Text()
		for _, f := range e.Fns {
			e.Known(f.Sig)
		}
		for _, im := range e.Impls {
			for _, m := range im.Methods {
				e.Known(e.Whole(im, m))
			}
		}
		sigs.Build(&names.Table{Items: l})
	}
}
