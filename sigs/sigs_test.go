package sigs_test

import (
	"math"
	"reflect"
	"slices"
	"strconv"
	"strings"
	"testing"

	"chattel/api"
	"chattel/names"
	"chattel/parse"
	"chattel/sigs"
	"chattel/tree"
	"chattel/types"
)

type T = types.Type

var integer = T{Kind: types.Int}

func box(a ...T) T { return T{Kind: types.Box, Args: a} }

func ref(r int, a ...T) T { return T{Kind: types.Ref, Region: r, Args: a} }

func mut(r int, a ...T) T { return T{Kind: types.Ref, Mut: true, Region: r, Args: a} }

func dyn(r int) T { return T{Kind: types.Dyn, Name: "Q", Region: r} }

func param(s string, r int) T { return T{Kind: types.Param, Name: s, Region: r} }

func str(s string, l []int, a ...T) T {
	return T{Kind: types.Struct, Name: s, Regions: l, Args: a}
}

// ahead stands ahead of the programs of most tests.
const ahead = `
struct One < 'a > { x : & 'a int }
struct Two < 'a , 'b > { x : & 'a int , y : & 'b int }
struct Of < T > { x : T }
struct View < 'a , 'b , T > { x : & 'a int , y : & 'b int , z : T }
trait Q { }
trait R { }
`

// table: the items of a text, of which nothing may be wrong.
func table(t *testing.T, text string) *names.Table {
	t.Helper()
	l, e := parse.Program(text)
	if e != (api.Err{}) {
		t.Fatalf("%s: %v", text, e)
	}
	tab, wrong := names.New(l)
	if len(wrong) > 0 {
		t.Fatalf("%s: %v", text, wrong)
	}
	return tab
}

// heads of a right text, of which nothing is told.
func heads(t *testing.T, text string) *sigs.Env {
	t.Helper()
	e, wrong := sigs.Build(table(t, text))
	if len(wrong) > 0 || e == nil {
		t.Fatalf("%s: %v", text, wrong)
	}
	return e
}

// show: a signature in a line: "2 T U ; 1>2 ; T:Q ; &1<int> , int ; ()".
func show(s sigs.Sig) string {
	var outs, bounds, params []string
	for _, p := range s.Outs {
		outs = append(outs, strconv.Itoa(p[0])+">"+strconv.Itoa(p[1]))
	}
	for _, b := range s.Bounds {
		bounds = append(bounds, b.Type+":"+b.Trait)
	}
	for _, p := range s.Params {
		params = append(params, types.Text(p))
	}
	first := strings.Join(append([]string{strconv.Itoa(s.Lifes)}, s.Types...), " ")
	return strings.Join([]string{first, strings.Join(outs, " "), strings.Join(bounds, " "), strings.Join(params, " , "), types.Text(s.Ret)}, " ; ")
}

func showMethod(m sigs.Method) string {
	return strings.Join([]string{m.Name, strconv.Itoa(m.Recv), strconv.Itoa(m.Life), show(m.Sig)}, " ; ")
}

// P9.1: heads are found by their names, the first of each.
func TestByName(t *testing.T) {
	e := &sigs.Env{Heads: api.Heads{
		Structs: []sigs.Struct{{Name: "A", Lifes: 1}, {Name: "B", Lifes: 2}, {Name: "A", Lifes: 3}, {Name: ""}},
		Traits:  []sigs.Trait{{Name: "A"}, {Name: "Q", Methods: []sigs.Method{{Name: "m"}}}, {Name: "Q"}},
		Impls:   []sigs.Impl{{Trait: "Q", Head: "A"}, {Trait: "Q", Head: "int", At: api.Pos{Line: 1}}, {Trait: "R", Head: "int"}, {Trait: "Q", Head: "int"}},
		Fns:     []sigs.Fn{{Name: "A", Sig: sigs.Sig{Lifes: 1}}, {Name: "A"}},
	}}
	if x, ok := e.Struct("A"); !ok || x.Lifes != 1 {
		t.Error(x, ok)
	}
	if x, ok := e.Struct("B"); !ok || x.Lifes != 2 {
		t.Error(x, ok)
	}
	if _, ok := e.Struct(""); !ok {
		t.Error("a struct without a name")
	}
	if x, ok := e.Trait("Q"); !ok || len(x.Methods) != 1 {
		t.Error(x, ok)
	}
	if x, ok := e.Impl("Q", "int"); !ok || x.At.Line != 1 {
		t.Error(x, ok)
	}
	if x, ok := e.Impl("R", "int"); !ok || x.Trait != "R" {
		t.Error(x, ok)
	}
	if x, ok := e.Fn("A"); !ok || x.Sig.Lifes != 1 {
		t.Error(x, ok)
	}
}

// P9.1: what isn't there isn't found, and the answer is the zero value.
func TestByNameNone(t *testing.T) {
	for _, e := range []*sigs.Env{nil, {}, heads(t, "struct S { } trait Q { } impl Q for S { } fn f ( ) { }")} {
		s, ok1 := e.Struct("Q")
		q, ok2 := e.Trait("S")
		f, ok3 := e.Fn("S")
		i, ok4 := e.Impl("S", "Q")
		j, ok5 := e.Impl("Q", "int")
		if ok1 || ok2 || ok3 || ok4 || ok5 {
			t.Error(ok1, ok2, ok3, ok4, ok5)
		}
		if !reflect.DeepEqual([]any{s, q, f, i, j}, []any{sigs.Struct{}, sigs.Trait{}, sigs.Fn{}, sigs.Impl{}, sigs.Impl{}}) {
			t.Error(s, q, f, i, j)
		}
	}
}

// P9.1: Count, and the region that is none.
func TestCount(t *testing.T) {
	if n := sigs.Count(sigs.Sig{Lifes: 3, Types: []string{"T", "U"}}); n != 5 {
		t.Error(n)
	}
	if sigs.Count(sigs.Sig{}) != 0 || sigs.Fresh != -1 {
		t.Error("count")
	}
}

// P9.1: a struct's own type, and what an impl is for.
func TestSelf(t *testing.T) {
	e := heads(t, ahead)
	for head, want := range map[string]string{
		"int": "int", "bool": "bool", "f64": "f64",
		"Two": "Two'1'2", "Of": "Of<T?1>", "View": "View'1'2<T?3>",
		"Q": "", "Nowhere": "", "": "", "()": "",
	} {
		if got := types.Text(e.Self(head)); got != want {
			t.Errorf("%s: %s, want %s", head, got, want)
		}
	}
	if !reflect.DeepEqual(e.Self("Nowhere"), T{}) {
		t.Error(e.Self("Nowhere"))
	}
	var none *sigs.Env
	if none.Self("f64").Kind != types.Float || !reflect.DeepEqual(none.Self("Two"), T{}) {
		t.Error("nil")
	}
	x := sigs.TypeOf(sigs.Struct{Name: "S", Lifes: 2, Types: []string{"T", "U"}, Fields: []sigs.Field{{Name: "x", Type: integer}}})
	if !reflect.DeepEqual(x, str("S", []int{1, 2}, param("T", 3), param("U", 4))) {
		t.Error(x)
	}
	if x := sigs.TypeOf(sigs.Struct{Name: "S", Lifes: -7}); !types.Equal(x, str("S", nil)) {
		t.Error(x)
	}
}

// P9.1: Whole puts self ahead of the parameters, and the impl's bounds ahead of the method's.
func TestWhole(t *testing.T) {
	e := heads(t, ahead+`
trait M { fn own ( self ) ; fn read < 'c > ( & self , x : & 'c int ) -> & int ; fn write < 'c > ( & 'c mut self ) ; fn always ( & 'static self ) ; }
impl M for View where T : Q + R { fn own ( self ) { } fn read < 'c > ( & self , x : & 'c T ) -> & int where 'c : 'a { abort ; } fn write < 'c > ( & 'c mut self ) { } fn always ( & 'static self ) { } }
impl M for bool { fn own ( self ) { } fn read < 'c > ( & self , x : & 'c int ) -> & int { abort ; } fn write < 'c > ( & 'c mut self ) { } fn always ( & 'static self ) { } }
`)
	for head, want := range map[string][]string{
		"View": {
			"2 T ;  ; T:Q T:R ; View'1'2<T?3> ; ()",
			"4 T ; 3>1 ; T:Q T:R ; &4<View'1'2<T?5>> , &3<T?5> ; &4<int>",
			"3 T ;  ; T:Q T:R ; &3mut<View'1'2<T?4>> ; ()",
			"2 T ;  ; T:Q T:R ; &0<View'1'2<T?3>> ; ()",
		},
		"bool": {
			"0 ;  ;  ; bool ; ()",
			"2 ;  ;  ; &2<bool> , &1<int> ; &2<int>",
			"1 ;  ;  ; &1mut<bool> ; ()",
			"0 ;  ;  ; &0<bool> ; ()",
		},
	} {
		im, _ := e.Impl("M", head)
		for i, m := range im.Methods {
			if got := show(e.Whole(im, m)); got != want[i] {
				t.Errorf("%s %s: %s\nwant %s", head, m.Name, got, want[i])
			}
		}
	}
	m := sigs.Method{Recv: tree.Unique, Life: 2, Sig: sigs.Sig{Lifes: 5, Bounds: []sigs.Bound{{Type: "U", Trait: "R"}}, Params: []T{integer}}}
	if got := show(e.Whole(sigs.Impl{Head: "Of", Bounds: []sigs.Bound{{Type: "T", Trait: "Q"}}}, m)); got != "5 ;  ; T:Q U:R ; &2mut<Of<T?6>> , int ; " {
		t.Error(got)
	}
}

// P9.1 (rule 4): Whole changes nothing of what it is given, nor what lies behind its lists.
func TestWholeNewMemory(t *testing.T) {
	e := heads(t, ahead)
	bounds := []sigs.Bound{{Type: "T", Trait: "Q"}, {Type: "spare"}}
	params := []T{integer, {Name: "spare"}}
	m := sigs.Method{Recv: tree.Own, Sig: sigs.Sig{Types: []string{"T"}, Outs: [][2]int{{1, 2}}, Bounds: []sigs.Bound{{Type: "T", Trait: "R"}}, Params: params[:1]}}
	s := e.Whole(sigs.Impl{Head: "Of", Bounds: bounds[:1]}, m)
	s.Types[0], s.Outs[0], s.Bounds[0], s.Bounds[1], s.Params[1] = "", [2]int{}, sigs.Bound{}, sigs.Bound{}, T{}
	_, _, _ = append(s.Bounds, sigs.Bound{}), append(s.Params, T{}), append(s.Outs, [2]int{})
	if bounds[0].Trait != "Q" || bounds[1].Type != "spare" || params[0].Kind != types.Int || params[1].Name != "spare" {
		t.Error(bounds, params)
	}
	if m.Sig.Types[0] != "T" || m.Sig.Outs[0] != [2]int{1, 2} || m.Sig.Bounds[0].Trait != "R" {
		t.Error(m)
	}
	x := e.Self("Two")
	x.Regions[0] = 77
	if e.Self("Two").Regions[0] != 1 {
		t.Error("self")
	}
}

// P9.1: what is known of a signature: its bounds, what its types must be, and what follows.
func TestKnown(t *testing.T) {
	e := heads(t, ahead+"struct Deep < 'a , 'b , T > { x : & 'a & 'b T } fn f < 'a , 'b , 'c , 'd , T > ( x : & 'a & 'b int , y : Deep < 'c , 'd , T > ) -> & 'd T where 'b : 'c , T : 'static { abort ; }")
	f, _ := e.Fn("f")
	r := e.Known(f.Sig)
	if r.Len() != 5 {
		t.Fatal(r.Len())
	}
	// 2 > 1 of x; 4 > 3, 5 > 3 of y; 5 > 4 of what is answered; 2 > 3, 5 > 0 of the bounds.
	want := [][2]int{{2, 1}, {2, 3}, {4, 3}, {5, 0}, {5, 1}, {5, 2}, {5, 3}, {5, 4}}
	if got := r.Pairs(); !slices.Equal(got, want) {
		t.Error(got)
	}
	for _, none := range []*sigs.Env{nil, {}} {
		if got := none.Known(f.Sig).Pairs(); !slices.Equal(got, [][2]int{{2, 1}, {2, 3}, {5, 0}, {5, 1}, {5, 2}, {5, 3}, {5, 4}}) {
			t.Error(got)
		}
	}
	r.Add(1, 4)
	if e.Known(f.Sig).Has(1, 4) {
		t.Error("a relation that is kept")
	}
}

// P9.1: with more than 300 regions nothing is known.
func TestKnownLimit(t *testing.T) {
	e := heads(t, ahead)
	for _, s := range []sigs.Sig{{Lifes: 300}, {Lifes: 298, Types: []string{"T", "U"}}, {}} {
		if r := e.Known(s); r == nil || r.Len() != sigs.Count(s) {
			t.Error(s.Lifes, r)
		}
	}
	for _, s := range []sigs.Sig{{Lifes: 301}, {Lifes: 299, Types: []string{"T", "U"}}, {Lifes: math.MaxInt}, {Lifes: -1}, {Lifes: math.MaxInt, Types: []string{"T"}}} {
		if r := e.Known(s); r != nil {
			t.Error(s.Lifes, r)
		}
	}
}

// P9.1 (rule 6): what isn't there says nothing.
func TestKnownOdd(t *testing.T) {
	e := &sigs.Env{Heads: api.Heads{Needs: types.Needs{"S": {{1, 2}, {9, 1}, {-1, 0}, {0, 3}}, "": {{1, 0}}}}}
	s := sigs.Sig{Lifes: 3, Outs: [][2]int{{1, 4}, {-1, 2}, {math.MaxInt, math.MinInt}, {1, 2}}, Params: []T{ref(7, ref(1)), ref(2, ref(-5)), str("S", []int{2, 3}), str("S", nil, integer), {Kind: 77, Region: 9, Args: []T{ref(1)}}}, Ret: T{Kind: -3}}
	if got := e.Known(s).Pairs(); !slices.Equal(got, [][2]int{{1, 2}, {1, 3}, {2, 3}}) {
		t.Error(got)
	}
}

// P9.1: Known of types that lie 2^16 deep in one another.
func TestKnownDeep(t *testing.T) {
	e := heads(t, ahead)
	x := param("T", 3)
	for i := range 1<<16 - 2 {
		x = ref(1+i%2, x)
	}
	if got := e.Known(sigs.Sig{Lifes: 2, Types: []string{"T"}, Params: []T{x}}).Pairs(); !slices.Equal(got, [][2]int{{1, 2}, {2, 1}, {3, 1}, {3, 2}}) {
		t.Error(got)
	}
}

// P9.1: the types of package api are those of the layer.
func TestAliases(t *testing.T) {
	var e sigs.Env
	var h api.Heads = e.Heads
	h.Structs, h.Traits, h.Impls, h.Fns = []sigs.Struct{{Fields: []sigs.Field{{}}}}, []sigs.Trait{{Methods: []sigs.Method{{}}}}, []sigs.Impl{{Bounds: []sigs.Bound{{}}}}, []sigs.Fn{{Sig: sigs.Sig{}}}
	if len(h.Structs) != 1 {
		t.Error(h)
	}
}
