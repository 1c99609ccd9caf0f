package vary_test

import (
	"math"
	"reflect"
	"slices"
	"testing"

	"chattel/api"
	"chattel/types"
	"chattel/vary"
)

type T = types.Type

var integer = T{Kind: types.Int}

func box(a ...T) T { return T{Kind: types.Box, Args: a} }

func ref(r int, a ...T) T { return T{Kind: types.Ref, Region: r, Args: a} }

func mut(r int, a ...T) T { return T{Kind: types.Ref, Mut: true, Region: r, Args: a} }

func dyn(r int, a ...T) T { return T{Kind: types.Dyn, Name: "Q", Region: r, Args: a} }

func param(s string, a ...T) T { return T{Kind: types.Param, Name: s, Args: a} }

func str(s string, l []int, a ...T) T {
	return T{Kind: types.Struct, Name: s, Regions: l, Args: a}
}

func def(s string, lifes int, names []string, fields ...T) vary.Def {
	return vary.Def{Name: s, Lifes: lifes, Types: names, Fields: fields}
}

func ways(t *testing.T, got vary.Ways, name string, want ...int) {
	t.Helper()
	l, ok := got[name]
	if !ok || !slices.Equal(l, want) {
		t.Errorf("%s: %v %v, want %v", name, l, ok, want)
	}
	for i, w := range want {
		if vary.Of(got, name, i) != w {
			t.Error(name, i, vary.Of(got, name, i))
		}
	}
}

// P8.1: the numbers of ways, and Through of all of them.
func TestThrough(t *testing.T) {
	if vary.None != 0 || vary.Co != 1 || vary.Contra != 2 || vary.Inv != 3 {
		t.Error("ways")
	}
	table := [4][4]int{
		{0, 0, 0, 0},
		{0, 1, 2, 3},
		{0, 2, 1, 3},
		{0, 3, 3, 3},
	}
	for a := range 4 {
		for b := range 4 {
			if w := vary.Through(a, b); w != table[a][b] {
				t.Error(a, b, w)
			}
		}
	}
}

// P8.1: Through is of sets of directions: each of the one with each of the other.
func TestThroughSets(t *testing.T) {
	for a := range 4 {
		for b := range 4 {
			want := 0
			for x := range 2 {
				for y := range 2 {
					if a>>x&1 == 1 && b>>y&1 == 1 {
						want |= 1 << (x ^ y)
					}
				}
			}
			if w := vary.Through(a, b); w != want {
				t.Error(a, b, w, want)
			}
		}
	}
}

// P8.1: a number that is no way is taken without a panic; through Co its lowest two bits count.
func TestThroughOdd(t *testing.T) {
	for _, n := range []int{-1, 4, 5, 6, 7, 1 << 40, math.MaxInt, math.MinInt} {
		for m := range 4 {
			vary.Through(n, m)
			vary.Through(m, n)
		}
		vary.Through(n, n)
		if w := vary.Through(vary.Co, n); w != n&3 {
			t.Error(n, w)
		}
		vary.Once([]vary.Def{def("S", 1, nil, str("R", []int{1}, ref(1)))}, vary.Ways{"R": {n, n}})
	}
}

// P8.1: Of tells a slot's way, and Inv where there is none.
func TestOf(t *testing.T) {
	w := vary.Ways{"S": {0, 1, 2, 3}, "R": nil}
	for i := range 4 {
		if vary.Of(w, "S", i) != i {
			t.Error(i)
		}
	}
	for _, i := range []int{-1, 4, math.MaxInt, math.MinInt} {
		if vary.Of(w, "S", i) != vary.Inv {
			t.Error(i)
		}
	}
	if vary.Of(w, "R", 0) != vary.Inv || vary.Of(w, "", 0) != vary.Inv || vary.Of(nil, "S", 0) != vary.Inv {
		t.Error("what isn't there")
	}
}

// P8.1: what one field says of lifetimes 1 and 2, and of T and U.
func TestOnceField(t *testing.T) {
	known := vary.Ways{"Co": {1, 1}, "Contra": {2, 2}, "Inv": {3, 3}, "None": {0, 0}, "Mix": {1, 2, 3, 0}}
	for _, c := range []struct {
		field T
		want  [4]int
	}{
		{integer, [4]int{}},
		{ref(1, integer), [4]int{1, 0, 0, 0}},
		{mut(2, integer), [4]int{0, 1, 0, 0}},
		{ref(1, ref(2, param("T"))), [4]int{1, 1, 1, 0}},
		{mut(1, ref(2, param("T"))), [4]int{1, 3, 3, 0}},
		{ref(1, mut(1, ref(2))), [4]int{1, 3, 0, 0}},
		{mut(1, ref(1)), [4]int{3, 0, 0, 0}},
		{ref(1, param("T"), param("U")), [4]int{1, 0, 1, 1}},
		{mut(1, param("T"), param("U")), [4]int{1, 0, 3, 3}},
		{box(ref(2, param("U"))), [4]int{0, 1, 0, 1}},
		{dyn(2), [4]int{0, 1, 0, 0}},
		{dyn(2, ref(1)), [4]int{1, 1, 0, 0}},
		{param("U", ref(1, param("T"))), [4]int{1, 0, 1, 1}},
		{param("V", ref(1)), [4]int{1, 0, 0, 0}},
		{mut(0, dyn(1, param("T"))), [4]int{3, 0, 3, 0}},
		{str("Co", []int{1, 2}), [4]int{1, 1, 0, 0}},
		{str("Contra", []int{1}, param("T")), [4]int{2, 0, 2, 0}},
		{str("Contra", []int{2}, str("Contra", []int{1}, param("U"))), [4]int{1, 2, 0, 1}},
		{str("Contra", []int{2}, mut(1, param("U"))), [4]int{2, 2, 0, 3}},
		{str("Inv", nil, param("T"), ref(1)), [4]int{3, 0, 3, 0}},
		{str("None", []int{1}, ref(2, param("T"))), [4]int{}},
		{str("None", []int{1, 2}, param("T")), [4]int{0, 0, 3, 0}},
		{str("Mix", []int{1, 2}, param("T"), param("U")), [4]int{1, 2, 3, 0}},
		{str("Mix", []int{1}, ref(2), param("T"), param("U")), [4]int{1, 2, 3, 0}},
		{str("Mix", []int{1, 1}), [4]int{3, 0, 0, 0}},
		{str("Nowhere", []int{1}, param("T")), [4]int{3, 0, 3, 0}},
		{mut(0, str("None", nil, mut(1), mut(1), mut(2))), [4]int{0, 3, 0, 0}},
		{T{Kind: types.Int, Region: 1, Regions: []int{1}, Args: []T{ref(2)}}, [4]int{0, 1, 0, 0}},
		{T{Kind: 12, Name: "T", Region: 1, Args: []T{param("U")}}, [4]int{0, 0, 0, 1}},
		{T{Kind: types.Box, Mut: true, Region: 1, Regions: []int{1}, Args: []T{ref(2)}}, [4]int{0, 1, 0, 0}},
		{T{Kind: types.Dyn, Mut: true, Region: 1, Args: []T{ref(2)}}, [4]int{1, 1, 0, 0}},
		{T{Kind: types.Struct, Name: "Co", Mut: true, Region: 1, Args: []T{ref(2)}}, [4]int{0, 1, 0, 0}},
		{ref(0, ref(3, ref(-1, ref(math.MaxInt, ref(math.MinInt, integer))))), [4]int{}},
	} {
		got := vary.Once([]vary.Def{def("S", 2, []string{"T", "U"}, c.field)}, known)
		ways(t, got, "S", c.want[:]...)
		if len(got) != 1 {
			t.Error(got)
		}
	}
}

// P8.1: what is said of a slot is said together by all fields.
func TestOnceTogether(t *testing.T) {
	known := vary.Ways{"C": {2, 2}}
	l := []vary.Def{def("S", 3, []string{"T"}, ref(1, integer), str("C", []int{1, 2}), param("T"))}
	ways(t, vary.Once(l, known), "S", 3, 2, 0, 1)
}

// P8.1: of a type parameter's name that stands twice the first place counts; a name without a place says nothing.
func TestOnceNames(t *testing.T) {
	ways(t, vary.Once([]vary.Def{def("S", 1, []string{"T", "T", ""}, param("T"), param("", ref(1)), param("V"))}, nil), "S", 1, 1, 0, 1)
}

// P8.1: of more than 100 lifetimes only 100, below 0 none.
func TestOnceLifes(t *testing.T) {
	fields := []T{ref(1), ref(100), ref(101), mut(99, param("T"))}
	want := make([]int, 101)
	want[0], want[98], want[99], want[100] = 1, 1, 1, 3
	for _, n := range []int{100, 101, 102, 1 << 40, math.MaxInt} {
		ways(t, vary.Once([]vary.Def{def("S", n, []string{"T"}, fields...)}, nil), "S", want...)
		ways(t, vary.Find([]vary.Def{def("S", n, []string{"T"}, fields...)}), "S", want...)
	}
	want = want[:100]
	want[99], want[98] = 3, 1
	ways(t, vary.Once([]vary.Def{def("S", 99, []string{"T"}, fields...)}, nil), "S", want...)
	for _, n := range []int{0, -1, math.MinInt} {
		ways(t, vary.Once([]vary.Def{def("S", n, []string{"T"}, fields...)}, nil), "S", 3)
		ways(t, vary.Find([]vary.Def{def("S", n, nil, fields...)}), "S")
	}
}

// P8.1: of structs of one Name the last is told of; nothing is told of those that aren't given.
func TestOnceLast(t *testing.T) {
	l := []vary.Def{def("S", 1, nil, ref(1)), def("R", 0, nil), def("S", 2, nil, ref(2))}
	got := vary.Once(l, vary.Ways{"Q": {1}})
	ways(t, got, "S", 0, 1)
	ways(t, got, "R")
	if len(got) != 2 || len(vary.Once(nil, vary.Ways{"Q": {1}})) != 0 || len(vary.Find(nil)) != 0 {
		t.Error(got)
	}
	vary.Find(l)
}

// P8.1: Once goes by the ways it is given, not by those that come of it.
func TestOnceIsOneStep(t *testing.T) {
	l := []vary.Def{def("A", 1, nil, ref(1)), def("B", 1, nil, str("A", []int{1})), def("C", 1, nil, str("B", []int{1}))}
	got := vary.Once(l, vary.Ways{"A": {0}, "B": {2}})
	ways(t, got, "A", 1)
	ways(t, got, "B", 0)
	ways(t, got, "C", 2)
	got = vary.Once(l, nil)
	ways(t, got, "B", 3)
	ways(t, vary.Find(l), "C", 1)
}

// P8.1: a field &'a mut &'b int.
func TestExample(t *testing.T) {
	l := []vary.Def{def("S", 2, nil, mut(1, ref(2, integer)))}
	ways(t, vary.Find(l), "S", vary.Co, vary.Inv)
}

// P8.1: Find of structs that lie in one another, behind pointers.
func TestFind(t *testing.T) {
	list := def("List", 1, []string{"T"}, param("T"), ref(1, str("List", []int{1}, param("T"))))
	pair := def("Pair", 2, []string{"T"}, str("Cell", []int{2}, param("T")), str("List", []int{1}, ref(2, integer)))
	cell := def("Cell", 1, []string{"T"}, mut(1, param("T")), box(str("Pair", []int{1, 1}, param("T"))))
	empty := def("Empty", 1, []string{"T"}, box(str("Empty", []int{1}, param("T"))))
	got := vary.Find([]vary.Def{pair, list, cell, empty})
	ways(t, got, "List", 1, 1)
	ways(t, got, "Cell", 1, 3)
	ways(t, got, "Pair", 1, 1, 3)
	ways(t, got, "Empty", 0, 0)
	if len(got) != 4 {
		t.Error(got)
	}
}

// P8.1: a struct that isn't given changes in neither way, and so does one with a slot that it doesn't have.
func TestFindNowhere(t *testing.T) {
	l := []vary.Def{def("S", 3, []string{"T"}, str("Gone", []int{1}, param("T")), str("S", []int{0, 2, 0}, integer, ref(3)))}
	ways(t, vary.Find(l), "S", 3, 0, 3, 3)
}

// P8.1: what goes round through all slots of a struct comes to all of them.
func TestFindRound(t *testing.T) {
	const n = 100
	var turned, want []int
	for i := range n {
		turned = append(turned, (i+1)%n+1)
		want = append(want, 1)
	}
	ways(t, vary.Find([]vary.Def{def("S", n, nil, str("S", turned), ref(7))}), "S", want...)
}

// P8.1: a long row of structs, each in the next one.
func TestFindRow(t *testing.T) {
	var l []vary.Def
	name := func(i int) string { return string(rune('a'+i/26)) + string(rune('a'+i%26)) }
	for i := range 60 {
		l = append(l, def(name(i), 1, []string{"T"}, str(name(i+1), []int{1}, param("T"))))
	}
	l = append(l, def(name(60), 1, []string{"T"}, mut(1, param("T"))))
	ways(t, vary.Find(l), name(0), 1, 3)
}

// P8.1: what is answered is new memory, and what is given stays as it is.
func TestNewMemory(t *testing.T) {
	make1 := func() []vary.Def { return []vary.Def{def("S", 1, []string{"T"}, ref(1, param("T")))} }
	l, w := make1(), vary.Ways{"S": {3, 3}, "Q": {1}}
	once := vary.Once(l, w)
	once["S"][0] = 77
	once["Q"] = nil
	vary.Find(l)["S"][1] = 77
	if !reflect.DeepEqual(l, make1()) || !reflect.DeepEqual(w, vary.Ways{"S": {3, 3}, "Q": {1}}) {
		t.Error(l, w)
	}
	ways(t, vary.Find(l), "S", 1, 1)
}

// P8.1: fields that lie 2^16 deep in one another are gone through.
func TestDeep(t *testing.T) {
	x := ref(1, param("T"))
	for range 1<<16 - 2 {
		x = box(x)
	}
	ways(t, vary.Find([]vary.Def{def("S", 1, []string{"T"}, x)}), "S", 1, 1)
}

// P8.1: the types of package api are those of the layer.
func TestAliases(t *testing.T) {
	var d vary.Def = api.Def{}
	var w vary.Ways = api.Ways{}
	if d.Lifes != 0 || w == nil {
		t.Error(d, w)
	}
}
