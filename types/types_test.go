package types_test

import (
	"math"
	"reflect"
	"slices"
	"testing"

	"chattel/api"
	"chattel/types"
)

type T = types.Type

var (
	integer = T{Kind: types.Int}
	boolean = T{Kind: types.Bool}
	float   = T{Kind: types.Float}
	unit    = T{Kind: types.Unit}
)

func box(a ...T) T { return T{Kind: types.Box, Args: a} }

func ref(r int, a ...T) T { return T{Kind: types.Ref, Region: r, Args: a} }

func mut(r int, a ...T) T { return T{Kind: types.Ref, Mut: true, Region: r, Args: a} }

func dyn(s string, r int) T { return T{Kind: types.Dyn, Name: s, Region: r} }

func param(s string, r int, a ...T) T { return T{Kind: types.Param, Name: s, Region: r, Args: a} }

func str(s string, l []int, a ...T) T {
	return T{Kind: types.Struct, Name: s, Regions: l, Args: a}
}

// deep: a type within so many others, one of each kind that has parts, in turn.
func deep(n int) T {
	t := param("T", 1)
	for i := range n {
		switch i % 3 {
		case 0:
			t = box(t)
		case 1:
			t = ref(2, t)
		case 2:
			t = str("S", []int{3}, t)
		}
	}
	return t
}

// odd: types of no kind, or with what their kind doesn't have, or without what it has.
func odd() []T {
	return []T{
		{},
		{Kind: -1, Name: "x", Region: 4, Regions: []int{5, 6}, Args: []T{ref(7, integer)}},
		{Kind: 10, Region: 4, Args: []T{param("T", 2)}},
		{Kind: math.MaxInt, Regions: []int{1}},
		{Kind: types.Int, Name: "x", Mut: true, Region: 4, Regions: []int{5}, Args: []T{dyn("Q", 3), integer}},
		{Kind: types.Box, Region: 4, Regions: []int{5, 6}},
		{Kind: types.Ref, Regions: []int{5}, Region: math.MinInt, Args: []T{param("T", -3), str("S", []int{-1, 0})}},
		{Kind: types.Dyn, Name: "Q", Regions: []int{5}, Region: math.MaxInt, Args: []T{param("T", 1)}},
		{Kind: types.Param, Name: "T", Mut: true, Regions: []int{9}, Region: 1, Args: []T{param("U", 2), ref(1)}},
		{Kind: types.Struct, Region: 8, Mut: true, Regions: []int{1, 1}, Args: []T{{}, ref(2, integer, boolean)}},
	}
}

func regions(t *testing.T, x T, want ...int) {
	t.Helper()
	if l := types.All(x); !slices.Equal(l, want) {
		t.Errorf("%+v: %v, want %v", x, l, want)
	}
}

// P7.1: the numbers of kinds.
func TestKinds(t *testing.T) {
	l := []int{types.Int, types.Bool, types.Float, types.Unit, types.Struct, types.Box, types.Ref, types.Dyn, types.Param}
	for i, k := range l {
		if k != i+1 {
			t.Error(i, k)
		}
	}
}

// P7.1: All tells a type's own regions first, then those of its Args, in order.
func TestAll(t *testing.T) {
	regions(t, integer)
	regions(t, unit)
	regions(t, ref(1, ref(2, integer)), 1, 2)
	regions(t, box(integer))
	regions(t, box(mut(4, integer)), 4)
	regions(t, dyn("Q", 3), 3)
	regions(t, param("T", 5), 5)
	regions(t, str("S", []int{1, 2, 1}, ref(3, dyn("Q", 0)), param("T", 4)), 1, 2, 1, 3, 0, 4)
	regions(t, str("S", nil))
}

// P7.1: what isn't a kind's own is no region in it, but its Args are gone through.
func TestAllOdd(t *testing.T) {
	l := odd()
	for i, want := range [][]int{nil, {7}, {2}, nil, {3}, nil, {math.MinInt, -3, -1, 0}, {math.MaxInt, 1}, {1, 2, 1}, {1, 1, 2}} {
		regions(t, l[i], want...)
	}
}

// P7.1: Map asks region by region, in the order of All, and puts each answer in its place.
func TestMap(t *testing.T) {
	x := str("S", []int{7, 8}, mut(9, param("T", 10)), integer, box(dyn("Q", 11)))
	var asked []int
	got := types.Map(x, func(r int) int {
		asked = append(asked, r)
		return len(asked)
	})
	want := str("S", []int{1, 2}, mut(3, param("T", 4)), integer, box(dyn("Q", 5)))
	if !reflect.DeepEqual(got, want) || !slices.Equal(asked, []int{7, 8, 9, 10, 11}) {
		t.Errorf("%+v %v", got, asked)
	}
	regions(t, x, 7, 8, 9, 10, 11)
}

// P7.1: Map leaves all else as it is, and a nil function all.
func TestMapKeeps(t *testing.T) {
	plus := func(r int) int { return r + 1 }
	minus := func(r int) int { return r - 1 }
	for _, x := range append(odd(), deep(20)) {
		if got := types.Map(x, nil); !reflect.DeepEqual(got, x) {
			t.Errorf("%+v: %+v", x, got)
		}
		if got := types.Map(types.Map(x, plus), minus); !reflect.DeepEqual(got, x) {
			t.Errorf("%+v: %+v", x, got)
		}
	}
}

// P7.1: Erase makes all regions 0, but nothing that isn't one.
func TestErase(t *testing.T) {
	x := str("S", []int{7, 8}, mut(9, param("T", 10)), box(dyn("Q", 11)))
	want := str("S", []int{0, 0}, mut(0, param("T", 0)), box(dyn("Q", 0)))
	if got := types.Erase(x); !reflect.DeepEqual(got, want) {
		t.Errorf("%+v", got)
	}
	for _, x := range odd() {
		if got := types.Erase(x); !reflect.DeepEqual(got, types.Map(x, func(int) int { return 0 })) || !types.Same(got, x) {
			t.Errorf("%+v: %+v", x, got)
		}
		if l := types.All(types.Erase(x)); slices.ContainsFunc(l, func(r int) bool { return r != 0 }) {
			t.Error(l)
		}
	}
	if x := types.Erase(T{Kind: types.Box, Region: 3}); x.Region != 3 {
		t.Error("a Box has no region to erase", x)
	}
}

// P7.1: Same holds Kind, Name, Mut, how many Regions a Struct has, and the Args against each other; not regions.
func TestSame(t *testing.T) {
	alike := [][2]T{
		{integer, integer},
		{ref(1, integer), ref(2, integer)},
		{mut(1, ref(3, boolean)), mut(0, ref(4, boolean))},
		{str("S", []int{1, 2}, unit), str("S", []int{3, 3}, unit)},
		{param("T", 1), param("T", 2)},
		{dyn("Q", 1), dyn("Q", 2)},
		{box(), box([]T{}...)},
		{T{Kind: types.Box, Regions: []int{1}, Region: 2}, T{Kind: types.Box}},
		{T{Kind: 12}, T{Kind: 12, Regions: []int{1}}},
	}
	for _, p := range alike {
		if !types.Same(p[0], p[1]) || !types.Same(p[1], p[0]) {
			t.Errorf("%+v", p)
		}
	}
	for _, p := range unlike() {
		if types.Same(p[0], p[1]) || types.Same(p[1], p[0]) || types.Equal(p[0], p[1]) || types.Equal(p[1], p[0]) {
			t.Errorf("%+v", p)
		}
		if a, b := box(ref(1, p[0])), box(ref(1, p[1])); types.Same(a, b) || types.Equal(a, b) {
			t.Errorf("within others: %+v", p)
		}
	}
}

// unlike: pairs that differ in one thing each.
func unlike() [][2]T {
	return [][2]T{
		{integer, boolean},
		{integer, {}},
		{ref(1, integer), mut(1, integer)},
		{ref(1, integer), box(integer)},
		{ref(1, integer), ref(1, float)},
		{ref(1, integer), ref(1)},
		{ref(1, integer), ref(1, integer, integer)},
		{str("S", []int{1}), str("R", []int{1})},
		{str("S", []int{1}), str("S", []int{1, 1})},
		{str("S", nil), str("S", []int{0})},
		{str("S", []int{1}, integer, unit), str("S", []int{1}, unit, integer)},
		{param("T", 1), param("U", 1)},
		{param("T", 1), param("T", 1, integer)},
		{dyn("Q", 1), dyn("R", 1)},
		{dyn("Q", 1), param("Q", 1)},
		{{Kind: types.Int, Name: "x"}, integer},
		{{Kind: types.Box, Mut: true}, box()},
	}
}

// P7.1: Equal asks for the same regions, too, wherever they stand.
func TestEqual(t *testing.T) {
	for _, x := range append(odd(), deep(20)) {
		if !types.Equal(x, x) || !types.Equal(x, types.Map(x, nil)) {
			t.Errorf("%+v", x)
		}
		n := len(types.All(x))
		for i := range n {
			at := -1
			y := types.Map(x, func(r int) int {
				if at++; at == i {
					return r ^ 1
				}
				return r
			})
			if types.Equal(x, y) || types.Equal(y, x) || !types.Same(x, y) {
				t.Errorf("%+v %+v", x, y)
			}
		}
	}
	if !types.Equal(T{Kind: types.Box, Region: 1}, box()) {
		t.Error("what is no region is none to Equal")
	}
}

// P7.1: Copies, of each kind.
func TestCopies(t *testing.T) {
	for _, x := range []T{integer, boolean, float, unit, ref(1, integer), ref(0, box(integer)), ref(1), ref(2, mut(1, integer)), {Kind: types.Int, Mut: true}} {
		if !types.Copies(x) {
			t.Errorf("%+v", x)
		}
	}
	for _, x := range []T{{}, {Kind: 10}, {Kind: -1}, mut(1, integer), mut(0), box(integer), str("S", nil), str("int", nil, integer), dyn("Q", 0), param("T", 1)} {
		if types.Copies(x) {
			t.Errorf("%+v", x)
		}
	}
}

// P7.1: Names tells the parameters in a type, each once, as they come.
func TestNames(t *testing.T) {
	for _, c := range []struct {
		x    T
		want []string
	}{
		{integer, nil},
		{param("T", 1), []string{"T"}},
		{str("S", []int{1}, param("B", 1), ref(2, param("A", 2)), param("B", 3)), []string{"B", "A"}},
		{param("T", 1, param("U", 2), param("T", 3), param("", 1)), []string{"T", "U", ""}},
		{str("T", nil, dyn("U", 1)), nil},
		{T{Kind: 11, Name: "V", Args: []T{param("W", 0)}}, []string{"W"}},
	} {
		if l := types.Names(c.x); !slices.Equal(l, c.want) {
			t.Errorf("%+v: %v", c.x, l)
		}
	}
}

// P7.1: types that lie 2^16 deep in one another are gone through by every call.
func TestDeep(t *testing.T) {
	const n = 1<<16 - 1
	x := deep(n)
	if l := types.All(x); len(l) != n/3*2+1 {
		t.Error(len(l))
	}
	y := types.Erase(x)
	if !types.Same(x, y) || types.Equal(x, y) || !types.Equal(x, types.Map(x, nil)) {
		t.Error("same")
	}
	if l := types.Names(y); !slices.Equal(l, []string{"T"}) {
		t.Error(l)
	}
	if got := types.Inst(x, nil, []string{"T"}, []T{integer}); len(types.All(got)) != n/3*2 {
		t.Error("inst")
	}
	if s := types.Text(x); len(s) != n/3*(3+2+3)+2*n+3 {
		t.Error(len(s))
	}
	one := box(integer)
	for range n {
		one = box(one)
	}
	if l := types.Wf(ref(1, one), nil); len(l) != 0 {
		t.Error(l)
	}
}

// P7.1: what is answered shares no list of regions with what was given, and what was given stays as it is.
func TestNewMemory(t *testing.T) {
	needs := types.Needs{"S": {{1, 2}}}
	make1 := func() T { return str("S", []int{1, 2}, str("S", []int{3, 4}), param("T", 5)) }
	x, arg, stays := make1(), str("S", []int{8, 9}), T{Kind: types.Param, Name: "U", Regions: []int{7}}
	for _, y := range []T{
		types.Map(x, nil), types.Map(x, func(r int) int { return r }), types.Erase(x),
		types.Inst(x, nil, nil, nil), types.Inst(x, []int{6}, []string{"T"}, []T{arg}),
		types.Inst(param("T", 1), nil, []string{"T"}, []T{arg}), types.Inst(stays, nil, []string{"T"}, []T{arg}),
	} {
		y.Regions[0] = 77
	}
	types.All(x)[0] = 77
	types.All(str("R", x.Regions))[0] = 77
	types.Wf(x, needs)[0][0] = 77
	if !reflect.DeepEqual(x, make1()) || !reflect.DeepEqual(arg, str("S", []int{8, 9})) || stays.Regions[0] != 7 || !reflect.DeepEqual(needs, types.Needs{"S": {{1, 2}}}) {
		t.Errorf("%+v %+v %v", x, arg, needs)
	}
}

// P7.1: a type handed to Map has spare room that stays as it is.
func TestSpareRoom(t *testing.T) {
	room := []int{1, 2, 50}
	parts := []T{integer, boolean}
	x := T{Kind: types.Struct, Name: "S", Regions: room[:2], Args: parts[:1]}
	types.Map(x, func(r int) int { return r + 1 })
	types.Inst(x, []int{9, 9}, nil, nil)
	_ = append(types.All(x), 60)
	if !slices.Equal(room, []int{1, 2, 50}) || parts[1].Kind != types.Bool {
		t.Error(room, parts)
	}
}

// P7.1: the types of package api are those of the layer.
func TestAliases(t *testing.T) {
	var x types.Type = api.Type{Kind: types.Int}
	var n types.Needs = api.Needs{}
	if !types.Copies(x) || n == nil {
		t.Error(x, n)
	}
}
