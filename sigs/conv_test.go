package sigs_test

import (
	"math"
	"reflect"
	"slices"
	"testing"

	"chattel/api"
	"chattel/parse"
	"chattel/sigs"
	"chattel/tree"
	"chattel/types"
)

func typ(t *testing.T, text string) tree.Type {
	t.Helper()
	x, e := parse.Type(text)
	if e != (api.Err{}) {
		t.Fatalf("%s: %v", text, e)
	}
	return x
}

// counter tells 100, 101 and on.
func counter() func() int {
	n := 99
	return func() int {
		n++
		return n
	}
}

// P9.1: types as they are written, in a scope, with lifetimes that are left out.
func TestConv(t *testing.T) {
	e := heads(t, ahead)
	for _, c := range []struct{ text, want string }{
		{"int", "int"}, {"bool", "bool"}, {"f64", "f64"}, {"( )", "()"},
		{"Box < Box < f64 > >", "Box<Box<f64>>"},
		{"& 'a int", "&1<int>"}, {"& 'b mut int", "&2mut<int>"}, {"& 'static int", "&0<int>"},
		{"& & 'a mut & int", "&100<&1mut<&101<int>>>"},
		{"T", "T?40"}, {"U", "U?-3"}, {"Of < T >", "Of<T?40>"},
		{"Two < 'b , 'a >", "Two'2'1"}, {"Two < 'static , 'static >", "Two'0'0"},
		{"Two", "Two'100'101"}, {"& Two", "&100<Two'101'102>"}, {"Of < & One >", "Of<&100<One'101>>"},
		{"View < & T >", "View'100'101<&102<T?40>>"}, {"View < 'a , 'b , Two >", "View'1'2<Two'100'101>"},
		// A dyn that stands alone has the region told; others have their lifetime, that of the reference right ahead, or 0.
		{"dyn Q", "dyn Q+7"}, {"dyn Q + 'a", "dyn Q+1"}, {"dyn Q + 'static", "dyn Q+0"},
		{"& dyn Q", "&100<dyn Q+100>"}, {"& 'b mut dyn Q", "&2mut<dyn Q+2>"}, {"& 'b dyn Q + 'a", "&2<dyn Q+1>"}, {"& 'static dyn Q", "&0<dyn Q+0>"},
		{"Box < dyn Q >", "Box<dyn Q+0>"}, {"Box < dyn Q + 'b >", "Box<dyn Q+2>"}, {"& 'a Box < dyn Q >", "&1<Box<dyn Q+0>>"}, {"Box < & 'a dyn Q >", "Box<&1<dyn Q+1>>"},
		{"& 'a & dyn Q", "&1<&100<dyn Q+100>>"}, {"& 'a Of < Box < dyn Q > >", "&1<Of<Box<dyn Q+0>>>"},
		// What is no struct has no lifetimes.
		{"Nowhere", "Nowhere"}, {"Nowhere < 'a , int >", "Nowhere'1<int>"},
	} {
		scope := sigs.Scope{Lifes: []string{"'a", "'b"}, Types: []string{"T", "U"}, Of: []int{40, -3}, New: counter()}
		if got := types.Text(e.Conv(typ(t, c.text), scope, 7)); got != c.want {
			t.Errorf("%s: %s, want %s", c.text, got, c.want)
		}
	}
}

// P9.1: without New a lifetime that is left out is Fresh.
func TestConvFresh(t *testing.T) {
	e := heads(t, ahead)
	for text, want := range map[string]string{"& & int": "&-1<&-1<int>>", "View < dyn Q >": "View'-1'-1<dyn Q+0>", "& dyn Q": "&-1<dyn Q+-1>", "dyn Q": "dyn Q+5", "& T": "&-1<T>"} {
		if got := types.Text(e.Conv(typ(t, text), sigs.Scope{}, 5)); got != want {
			t.Errorf("%s: %s, want %s", text, got, want)
		}
	}
}

// P9.1: a type where none is written is unit; all that a type's kind doesn't have is its zero value.
func TestConvWhole(t *testing.T) {
	e := heads(t, ahead)
	scope := sigs.Scope{Lifes: []string{"'a"}, Types: []string{"T"}, Of: []int{2}}
	for _, c := range []struct {
		x    tree.Type
		want T
	}{
		{tree.Type{}, T{Kind: types.Unit}},
		{typ(t, "( )"), T{Kind: types.Unit}},
		{typ(t, "int"), T{Kind: types.Int}},
		{typ(t, "T"), param("T", 2)},
		{typ(t, "& 'a mut T"), mut(1, param("T", 2))},
		{typ(t, "Box < dyn Q + 'a >"), box(dyn(1))},
		{typ(t, "View < 'a , 'static , T >"), str("View", []int{1, 0}, param("T", 2))},
	} {
		if got := e.Conv(c.x, scope, 0); !reflect.DeepEqual(got, c.want) {
			t.Errorf("%+v: %+v", c.x, got)
		}
	}
}

// P9.1: a type parameter hides a struct of its name; 'static is 0 whatever is declared; of two of one name the first counts.
func TestConvHides(t *testing.T) {
	e := heads(t, ahead)
	scope := sigs.Scope{Lifes: []string{"'a", "'static", "'a", "'b"}, Types: []string{"One", "T", "T", "V"}, Of: []int{10, 11, 12}, New: counter()}
	for text, want := range map[string]string{"One": "One?10", "T": "T?11", "V": "V?0", "Two < 'a , 'b >": "Two'1'4", "& 'static int": "&0<int>"} {
		if got := types.Text(e.Conv(typ(t, text), scope, 0)); got != want {
			t.Errorf("%s: %s, want %s", text, got, want)
		}
	}
}

// P9.1: heads that others put in their places count; of two structs of one name the first.
func TestConvOtherHeads(t *testing.T) {
	e := &sigs.Env{Heads: api.Heads{Structs: []sigs.Struct{{Name: "f#0", Lifes: 2}, {Name: "f#0", Lifes: 3}, {Name: "less", Lifes: -4}}}}
	for name, want := range map[string]string{"f#0": "f#0'-1'-1", "less": "less"} {
		if got := types.Text(e.Conv(tree.Type{Kind: tree.TName, Name: name}, sigs.Scope{}, 0)); got != want {
			t.Error(got)
		}
	}
	var none *sigs.Env
	if got := types.Text(none.Conv(typ(t, "& S < 'a >"), sigs.Scope{Lifes: []string{"'a"}, New: counter()}, 0)); got != "&100<S'1>" {
		t.Error(got)
	}
}

// P9.1 (rules 4 and 6): what it is given isn't changed; what isn't right doesn't make it panic.
func TestConvOdd(t *testing.T) {
	e := heads(t, ahead)
	lifes, params, of := []string{"'a", "'spare"}, []string{"T", "spare"}, []int{5, 99}
	scope := sigs.Scope{Lifes: lifes[:1], Types: params[:1], Of: of[:1]}
	x := typ(t, "View < 'a , 'a , & T >")
	e.Conv(x, scope, 0).Regions[0] = 77
	if x.Lifes[0] != "'a" || lifes[1] != "'spare" || params[1] != "spare" || !slices.Equal(of, []int{5, 99}) {
		t.Error(x, lifes, params, of)
	}
	for _, x := range []tree.Type{{Kind: tree.TRef}, {Kind: tree.TBox}, {Kind: tree.TName}, {Kind: tree.TDyn}, {Kind: tree.TDyn, Life: "'q"}, {Kind: 9}, {Kind: -1, Args: []tree.Type{{}}}, {Kind: math.MaxInt}, {Kind: tree.TName, Name: "T", Lifes: []string{"'a", ""}, Args: []tree.Type{{}}}, {Kind: tree.TName, Name: "One", Lifes: []string{"'a", "", "'q"}, Args: []tree.Type{{}}}, {Kind: tree.TRef, Args: []tree.Type{{Kind: tree.TDyn}, {Kind: tree.TDyn}, {}}}} {
		for _, s := range []sigs.Scope{{}, scope, {Types: []string{"T", ""}}} {
			e.Conv(x, s, math.MinInt)
		}
	}
}

// P9.1: types that lie 2^16 deep in one another.
func TestConvDeep(t *testing.T) {
	e := heads(t, ahead)
	x := typ(t, "dyn Q")
	for range 1<<16 - 2 {
		x = tree.Type{Kind: tree.TRef, Args: []tree.Type{x}}
	}
	got := types.All(e.Conv(x, sigs.Scope{New: counter()}, 0))
	if n := len(got); n != 1<<16-1 || got[0] != 100 || got[n-2] != 100+1<<16-3 || got[n-1] != got[n-2] {
		t.Error(n)
	}
}
