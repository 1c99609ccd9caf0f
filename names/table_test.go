package names_test

import (
	"reflect"
	"slices"
	"testing"

	"chattel/api"
	"chattel/names"
	"chattel/parse"
	"chattel/tree"
)

// P5.1: items by their names, each kind for itself; names that none has.
func TestFind(t *testing.T) {
	tab := table(t, right)
	for name, want := range map[string][3]bool{"Unit": {true, false, true}, "Pair": {true, false, false}, "Show": {false, true, false}, "None": {false, true, false}, "show": {false, false, true}, "main": {false, false, true}, "int": {}, "": {}, "self": {}, "'a": {}, "T": {}} {
		for i, find := range []func(string) (tree.Item, bool){tab.Struct, tab.Trait, tab.Fn} {
			x, ok := find(name)
			kind := []int{tree.IStruct, tree.ITrait, tree.IFn}[i]
			at := slices.IndexFunc(tab.Items, func(x tree.Item) bool { return x.Kind == kind && x.Name == name })
			if ok != want[i] || ok && !reflect.DeepEqual(x, tab.Items[at]) || !ok && !reflect.DeepEqual(x, tree.Item{}) {
				t.Error(name, kind, x, ok)
			}
		}
	}
	for _, x := range tab.Items {
		if x.Kind != tree.IImpl {
			continue
		}
		if got, ok := tab.Impl(x.Name, x.Head); !ok || !reflect.DeepEqual(got, x) {
			t.Error(x.Name, x.Head, got, ok)
		}
	}
	for _, x := range [][2]string{{"Show", "bool"}, {"int", "Show"}, {"", ""}, {"Show", ""}, {"", "int"}, {"Pair", "None"}, {"None", "int"}, {"Unit", ""}, {"Show", "View "}} {
		if got, ok := tab.Impl(x[0], x[1]); ok || !reflect.DeepEqual(got, tree.Item{}) {
			t.Error(x, got, ok)
		}
	}
}

// P5.1: of several of one name the first is found, one that another kind's name hides isn't.
func TestFindTwice(t *testing.T) {
	tab := table(t, "struct S { } struct S { x : int } trait S { } trait R { } struct R { } trait R { fn m ( self ) ; } fn f ( ) { } fn f ( x : int ) { } impl R for S { } impl R for S { fn m ( self ) { } }")
	if x, ok := tab.Struct("S"); !ok || len(x.Fields) != 0 {
		t.Error(x, ok)
	}
	if x, ok := tab.Trait("R"); !ok || len(x.Methods) != 0 {
		t.Error(x, ok)
	}
	if x, ok := tab.Fn("f"); !ok || len(x.Fields) != 0 {
		t.Error(x, ok)
	}
	if x, ok := tab.Impl("R", "S"); !ok || len(x.Methods) != 0 {
		t.Error(x, ok)
	}
	if x, ok := tab.Struct("R"); ok || !reflect.DeepEqual(x, tree.Item{}) {
		t.Error(x, ok)
	}
	if x, ok := tab.Trait("S"); ok || !reflect.DeepEqual(x, tree.Item{}) {
		t.Error(x, ok)
	}
	if g, ok := tab.Of("R"); ok || !reflect.DeepEqual(g, tree.Generics{}) {
		t.Error(g, ok)
	}
}

// P5.1: an impl is found, whatever is wrong with it.
func TestFindWrong(t *testing.T) {
	tab := table(t, "impl Q for T { fn m ( self ) { } } struct S { s : S , t : U }")
	if x, ok := tab.Impl("Q", "T"); !ok || len(x.Methods) != 1 {
		t.Error(x, ok)
	}
	if x, ok := tab.Struct("S"); !ok || len(x.Fields) != 2 {
		t.Error(x, ok)
	}
}

// P5.1: generics of what impls are for.
func TestOf(t *testing.T) {
	tab := table(t, right)
	for head, want := range map[string]tree.Generics{"int": {}, "bool": {}, "f64": {}, "Unit": {}, "Pair": {Types: []string{"T", "U"}}, "View": {Lifes: []string{"'a", "'b"}, Types: []string{"T"}}, "Any": {Lifes: []string{"'a"}}} {
		if g, ok := tab.Of(head); !ok || !reflect.DeepEqual(g, want) {
			t.Error(head, g, ok)
		}
		if names.Plain(head) != (head == "int" || head == "bool" || head == "f64") {
			t.Error(head)
		}
	}
	for _, head := range []string{"Show", "show", "T", "", "Int", "int ", "self", "Box", "()", "'a"} {
		if g, ok := tab.Of(head); ok || !reflect.DeepEqual(g, tree.Generics{}) || names.Plain(head) {
			t.Error(head, g, ok)
		}
	}
}

// P5.1: the first method of a name.
func TestMethod(t *testing.T) {
	tab := table(t, "trait R { fn m ( self ) ; fn n ( & self ) ; fn m ( & self ) ; } impl R for int { fn n ( self ) { } } struct S { m : int }")
	trait, impl := tab.Items[0], tab.Items[1]
	if m, ok := names.Method(trait, "m"); !ok || !reflect.DeepEqual(m, trait.Methods[0]) {
		t.Error(m, ok)
	}
	if m, ok := names.Method(trait, "n"); !ok || !reflect.DeepEqual(m, trait.Methods[1]) {
		t.Error(m, ok)
	}
	if m, ok := names.Method(impl, "n"); !ok || !reflect.DeepEqual(m, impl.Methods[0]) {
		t.Error(m, ok)
	}
	for _, x := range []struct {
		item tree.Item
		name string
	}{{trait, "o"}, {trait, ""}, {impl, "m"}, {tab.Items[2], "m"}, {tree.Item{}, "m"}, {tree.Item{}, ""}} {
		if m, ok := names.Method(x.item, x.name); ok || !reflect.DeepEqual(m, tree.Method{}) {
			t.Error(x.name, m, ok)
		}
	}
}

// P5.1: a type in a body: as in a function's head.
func TestType(t *testing.T) {
	tab := table(t, right)
	for _, x := range []told{
		{"int", ""}, {"( )", ""}, {"& int", ""}, {"& mut & 'static int", ""}, {"T", ""}, {"& 'a mut T", ""}, {"Unit", ""},
		{"View < 'a , 'b , T >", ""}, {"View < T >", ""}, {"Box < dyn Show >", ""}, {"& dyn Show + 'b", ""}, {"Any", ""},
		{"Any < 'a >", ""}, {"Pair < & int , Box < Pair < T , T > > >", ""}, {"None", ""},
		{"@1Nope", "Unknown 1"}, {"@1Show", "Unknown 1"}, {"@1show", "Unknown 1"}, {"@1U", "Unknown 1"},
		{"\n @1& 'c @2& 'd int", "Life 1 Life 2"}, {"@1dyn None", "Kind 1"}, {"@1dyn Unit", "Kind 1 Unknown 1"}, {"@1dyn Q + 'c", "Kind 1 Unknown 1 Life 1"},
		{"& @1dyn Unit", "Unknown 1"}, {"@1T < int >", "Kind 1"}, {"@1T < 'a >", "Kind 1"}, {"@1Unit < 'c , @2Q >", "Life 1 Unknown 2 Kind 1"},
		{"@1None < int >", "Kind 1"}, {"@1View < 'a , T >", "Kind 1"}, {"@1View", "Kind 1"}, {"Pair < @1dyn Show , @2Any < 'a , 'a > >", "Kind 1 Kind 2"},
	} {
		text, places := marked(x.text)
		typ, e := parse.Type(text)
		if e != (api.Err{}) {
			t.Fatal(text, e)
		}
		lifes, types := []string{"'a", "'b", "'a"}, []string{"T", "T", "None"}
		if got, want := tab.Type(typ, lifes, types), errs(t, x.errs, places); !slices.Equal(got, want) {
			t.Errorf("%s tells %v, want %v", x.text, got, want)
		}
		if !slices.Equal(lifes, []string{"'a", "'b", "'a"}) || !slices.Equal(types, []string{"T", "T", "None"}) {
			t.Error(lifes, types)
		}
	}
	if got := tab.Type(tree.Type{}, nil, nil); len(got) != 0 {
		t.Error(got)
	}
	if got := tab.Type(tree.Type{Kind: tree.TRef, Life: "'a", At: api.Pos{Line: 1, Col: 1}}, nil, []string{"'a"}); !slices.Equal(got, []api.Err{{Code: api.Life, At: api.Pos{Line: 1, Col: 1}}}) {
		t.Error(got)
	}
}

// P5.1: a nil table, and one without items, and one that New didn't make.
func TestNilTable(t *testing.T) {
	empty, l := names.New(nil)
	if len(l) != 0 || empty == nil || len(empty.Items) != 0 {
		t.Fatal(empty, l)
	}
	for _, tab := range []*names.Table{nil, empty, {}} {
		for _, find := range []func(string) (tree.Item, bool){tab.Struct, tab.Trait, tab.Fn, func(s string) (tree.Item, bool) { return tab.Impl(s, s) }} {
			if x, ok := find("S"); ok || !reflect.DeepEqual(x, tree.Item{}) {
				t.Error(x, ok)
			}
		}
		for _, head := range []string{"int", "bool", "f64"} {
			if g, ok := tab.Of(head); !ok || !reflect.DeepEqual(g, tree.Generics{}) {
				t.Error(head, g, ok)
			}
		}
		if g, ok := tab.Of("S"); ok || !reflect.DeepEqual(g, tree.Generics{}) {
			t.Error(g, ok)
		}
		at := api.Pos{Line: 2, Col: 3}
		named := tree.Type{Kind: tree.TName, Name: "S", At: at}
		if got := tab.Type(named, nil, nil); !slices.Equal(got, []api.Err{{Code: api.Unknown, At: at}}) {
			t.Error(got)
		}
		if got := tab.Type(named, nil, []string{"S"}); len(got) != 0 {
			t.Error(got)
		}
		if got := tab.Type(tree.Type{Kind: tree.TRef, Life: names.Static, Args: []tree.Type{named}}, nil, []string{"S"}); len(got) != 0 {
			t.Error(got)
		}
	}
}

// P5.1 (rule 4): the list that is handed in isn't changed, nor kept, nor its spare room.
func TestListHandedIn(t *testing.T) {
	l := program(t, "struct A { } struct B { }")
	spare := append(slices.Clone(l), tree.Item{Name: "spare"})
	tab, _ := names.New(spare[:2])
	if !reflect.DeepEqual(spare[:2], l) || spare[2].Name != "spare" {
		t.Error(spare)
	}
	spare[0].Name = "C"
	if tab.Items[0].Name != "A" {
		t.Error(tab.Items)
	}
	if _, ok := tab.Struct("A"); !ok {
		t.Error("A")
	}
	_ = append(tab.Items, tree.Item{Name: "more"})
	if spare[2].Name != "spare" {
		t.Error(spare)
	}
	lifes := []string{"'a", "'b"}[:1]
	tab.Type(tree.Type{Kind: tree.TInt}, lifes, lifes)
	if lifes[:2][1] != "'b" {
		t.Error(lifes[:2])
	}
}

// P5.1 (rule 6): what no grammar gives doesn't make it panic.
func TestOddTrees(t *testing.T) {
	odd := []tree.Type{{Kind: tree.TRef}, {Kind: tree.TBox}, {Kind: 77, Args: []tree.Type{{Kind: tree.TName}}}, {Kind: tree.TName}, {Kind: -1}, {Kind: tree.TDyn}}
	for _, x := range odd {
		names.New([]tree.Item{{}, {Kind: 9}, {Kind: tree.IStruct, Fields: []tree.Param{{Type: x}}}, {Kind: tree.IFn, Ret: x, Where: []tree.Bound{{}}}, {Kind: tree.IImpl, Methods: []tree.Method{{}}}, {Kind: tree.ITrait, Methods: []tree.Method{{Ret: x}}}})
	}
	if _, l := names.New([]tree.Item{{}, {}, {Kind: 9}, {Kind: 9}}); len(l) != 0 {
		t.Error(l)
	}
}
