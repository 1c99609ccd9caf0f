package sub_test

import (
	"math"
	"reflect"
	"slices"
	"testing"

	"chattel/sub"
	"chattel/types"
	"chattel/vary"
)

type T = types.Type

var integer = T{Kind: types.Int}

func box(a ...T) T { return T{Kind: types.Box, Args: a} }

func ref(r int, a ...T) T { return T{Kind: types.Ref, Region: r, Args: a} }

func mut(r int, a ...T) T { return T{Kind: types.Ref, Mut: true, Region: r, Args: a} }

func dyn(r int, a ...T) T { return T{Kind: types.Dyn, Name: "Q", Region: r, Args: a} }

func param(r int, a ...T) T { return T{Kind: types.Param, Name: "T", Region: r, Args: a} }

func str(s string, l []int, a ...T) T {
	return T{Kind: types.Struct, Name: s, Regions: l, Args: a}
}

// ways: how structs change: each with two lifetimes and two types.
var ways = vary.Ways{"None": {0, 0, 0, 0}, "Co": {1, 1, 1, 1}, "Contra": {2, 2, 2, 2}, "Inv": {3, 3, 3, 3}, "Mix": {1, 2, 3, 0}}

// does: what is asked of regions, for one to do for the other, is this.
func does(t *testing.T, a, b T, want ...[2]int) {
	t.Helper()
	if got, ok := sub.Pairs(ways, a, b); !ok || !slices.Equal(got, want) {
		t.Errorf("%s for %s: %v %v, want %v", types.Text(a), types.Text(b), got, ok, want)
	}
}

// both: likewise for each to do for the other.
func both(t *testing.T, a, b T, want ...[2]int) {
	t.Helper()
	if got, ok := sub.Both(ways, a, b); !ok || !slices.Equal(got, want) {
		t.Errorf("%s and %s: %v %v, want %v", types.Text(a), types.Text(b), got, ok, want)
	}
}

// never: neither does, with whatever regions.
func never(t *testing.T, a, b T) {
	t.Helper()
	for _, w := range []vary.Ways{ways, nil} {
		got, ok := sub.Pairs(w, a, b)
		mutual, each := sub.Both(w, a, b)
		if ok || each || len(got)+len(mutual) > 0 {
			t.Errorf("%s for %s: %v %v, %v %v", types.Text(a), types.Text(b), got, ok, mutual, each)
		}
	}
}

// P10.1: &1 int does for &2 int, if 1 outlives 2.
func TestExample(t *testing.T) {
	does(t, ref(1, integer), ref(2, integer), [2]int{1, 2})
}

// P10.1: what doesn't hang on regions always does.
func TestPlain(t *testing.T) {
	for _, x := range []T{integer, {Kind: types.Bool}, {Kind: types.Float}, {Kind: types.Unit}, box(integer), str("Co", nil), param(1), {}} {
		does(t, x, x)
		both(t, x, x)
	}
}

// P10.1: pairs, in order, by the way in which regions stand.
func TestPairs(t *testing.T) {
	does(t, ref(1, ref(2, integer)), ref(3, ref(4, integer)), [2]int{1, 3}, [2]int{2, 4})
	does(t, mut(1, integer), mut(2, integer), [2]int{1, 2})
	does(t, mut(1, ref(2, integer)), mut(3, ref(4, integer)), [2]int{1, 3}, [2]int{2, 4}, [2]int{4, 2})
	does(t, ref(1, mut(2, ref(3, mut(4, dyn(5))))), ref(6, mut(7, ref(8, mut(9, dyn(10))))), [2]int{1, 6}, [2]int{2, 7}, [2]int{3, 8}, [2]int{8, 3}, [2]int{4, 9}, [2]int{9, 4}, [2]int{5, 10}, [2]int{10, 5})
	does(t, box(ref(1, integer)), box(ref(2, integer)), [2]int{1, 2})
	does(t, box(dyn(1)), box(dyn(2)), [2]int{1, 2})
	does(t, dyn(0), dyn(0), [2]int{0, 0})
	does(t, ref(1, integer), ref(1, integer), [2]int{1, 1})
	does(t, ref(-1, integer), ref(math.MaxInt, integer), [2]int{-1, math.MaxInt})
	// A parameter's own region says nothing.
	does(t, param(1), param(2))
	does(t, ref(1, param(2)), ref(3, param(4)), [2]int{1, 3})
	does(t, mut(1, param(2)), mut(3, param(4)), [2]int{1, 3})
}

// P10.1: structs change by their slots: lifetimes, then types; one that isn't there in neither way.
func TestStructs(t *testing.T) {
	for name, want := range map[string][][2]int{
		"Co":      {{1, 11}, {2, 12}, {3, 13}, {4, 14}},
		"Contra":  {{11, 1}, {12, 2}, {13, 3}, {14, 4}},
		"Inv":     {{1, 11}, {11, 1}, {2, 12}, {12, 2}, {3, 13}, {13, 3}, {4, 14}, {14, 4}},
		"None":    nil,
		"Mix":     {{1, 11}, {12, 2}, {3, 13}, {13, 3}},
		"Nowhere": {{1, 11}, {11, 1}, {2, 12}, {12, 2}, {3, 13}, {13, 3}, {4, 14}, {14, 4}},
	} {
		does(t, str(name, []int{1, 2}, ref(3), ref(4)), str(name, []int{11, 12}, ref(13), ref(14)), want...)
	}
	does(t, str("Mix", nil, ref(1), ref(2), ref(3), ref(4), ref(5)), str("Mix", nil, ref(11), ref(12), ref(13), ref(14), ref(15)), [2]int{1, 11}, [2]int{12, 2}, [2]int{3, 13}, [2]int{13, 3}, [2]int{5, 15}, [2]int{15, 5})
	does(t, str("Mix", []int{1, 2, 3}, ref(4), ref(5)), str("Mix", []int{11, 12, 13}, ref(14), ref(15)), [2]int{1, 11}, [2]int{12, 2}, [2]int{3, 13}, [2]int{13, 3}, [2]int{5, 15}, [2]int{15, 5})
}

// P10.1: ways within ways.
func TestThrough(t *testing.T) {
	against := func(x T) T { return str("Contra", nil, x) }
	does(t, against(ref(1, integer)), against(ref(2, integer)), [2]int{2, 1})
	does(t, against(against(ref(1, integer))), against(against(ref(2, integer))), [2]int{1, 2})
	does(t, against(mut(1, ref(2))), against(mut(3, ref(4))), [2]int{3, 1}, [2]int{2, 4}, [2]int{4, 2})
	does(t, mut(1, against(ref(2))), mut(3, against(ref(4))), [2]int{1, 3}, [2]int{2, 4}, [2]int{4, 2})
	does(t, against(str("Mix", []int{1, 2}, ref(3), ref(4))), against(str("Mix", []int{11, 12}, ref(13), ref(14))), [2]int{11, 1}, [2]int{2, 12}, [2]int{3, 13}, [2]int{13, 3})
	does(t, mut(1, str("None", []int{2, 3}, mut(4))), mut(11, str("None", []int{12, 13}, mut(14))), [2]int{1, 11})
	does(t, against(param(1, ref(2))), against(param(11, ref(12))), [2]int{12, 2})
	does(t, dyn(1, ref(2), mut(3, ref(4))), dyn(11, ref(12), mut(13, ref(14))), [2]int{1, 11}, [2]int{2, 12}, [2]int{3, 13}, [2]int{4, 14}, [2]int{14, 4})
	// Mut counts of a Ref alone.
	a, b := dyn(1, ref(2)), dyn(11, ref(12))
	a.Mut, b.Mut = true, true
	does(t, a, b, [2]int{1, 11}, [2]int{2, 12})
}

// P10.1: Both asks both ways, x of a first, but where a struct doesn't change.
func TestBoth(t *testing.T) {
	both(t, ref(1, mut(2, dyn(3))), ref(11, mut(12, dyn(13))), [2]int{1, 11}, [2]int{11, 1}, [2]int{2, 12}, [2]int{12, 2}, [2]int{3, 13}, [2]int{13, 3})
	both(t, str("Mix", []int{1, 2}, ref(3), ref(4)), str("Mix", []int{11, 12}, ref(13), ref(14)), [2]int{1, 11}, [2]int{11, 1}, [2]int{2, 12}, [2]int{12, 2}, [2]int{3, 13}, [2]int{13, 3})
	both(t, str("None", []int{1}, ref(2)), str("None", []int{11}, ref(12)))
	both(t, str("Contra", []int{1}), str("Contra", []int{11}), [2]int{1, 11}, [2]int{11, 1})
	both(t, param(1, ref(2)), param(11, ref(12)), [2]int{2, 12}, [2]int{12, 2})
}

// P10.1: types that aren't the same but for regions never do.
func TestNever(t *testing.T) {
	l := []T{
		{}, {Kind: -1}, {Kind: 10}, integer, {Kind: types.Bool}, {Kind: types.Float}, {Kind: types.Unit},
		box(integer), box(ref(1, integer)), box(), box(integer, integer), box(box(integer)),
		ref(1, integer), mut(1, integer), ref(1, mut(1, integer)), ref(1, ref(1, integer)), ref(1), ref(1, box(integer)),
		str("Co", nil), str("Co", []int{1}), str("Co", []int{1, 1}), str("Inv", []int{1}), str("Co", []int{1}, integer), str("Co", nil, integer), str("Co", nil, integer, integer), str("Co", nil, ref(1, integer)),
		dyn(1), {Kind: types.Dyn, Name: "R", Region: 1}, param(1), {Kind: types.Param, Name: "U", Region: 1}, param(1, integer),
	}
	for i, a := range l {
		for j, b := range l {
			if i != j {
				never(t, a, b)
			}
		}
		if _, ok := sub.Pairs(nil, a, a); !ok {
			t.Error(a)
		}
	}
	// What is unlike may lie deep, and where nothing is said of regions.
	never(t, str("None", nil, ref(1, mut(1, box(integer)))), str("None", nil, ref(1, mut(1, box(dyn(1))))))
}

// P10.1 (rule 6): no types, and no ways, make it panic.
func TestOdd(t *testing.T) {
	strange := vary.Ways{"S": {-1, 4, math.MaxInt, math.MinInt, 7}, "": nil}
	for _, x := range []T{
		{Kind: types.Int, Region: 1, Regions: []int{1, 2}, Args: []T{ref(1)}},
		{Kind: 77, Regions: []int{1}, Args: []T{mut(1, ref(2)), {}}},
		{Kind: types.Ref, Regions: []int{4}, Args: []T{str("S", []int{1, 2, 3, 4}, mut(5, ref(6)))}},
		str("S", []int{1}, str("S", nil, ref(1), ref(2), ref(3), ref(4), str("", []int{9}))),
	} {
		for _, w := range []vary.Ways{nil, {}, strange, ways} {
			if _, ok := sub.Pairs(w, x, x); !ok {
				t.Error(x)
			}
			if _, ok := sub.Both(w, x, x); !ok {
				t.Error(x)
			}
		}
	}
	// What a kind doesn't have says nothing.
	does(t, T{Kind: types.Box, Region: 1, Args: []T{ref(2)}}, T{Kind: types.Box, Region: 3, Regions: []int{4, 5}, Args: []T{ref(6)}}, [2]int{2, 6})
	does(t, T{Kind: types.Ref, Region: 1, Regions: []int{7}}, ref(2), [2]int{1, 2})
}

// P10.1: what it is given isn't changed, and what is answered is new memory.
func TestNewMemory(t *testing.T) {
	make1 := func() (T, T) {
		return str("Mix", []int{1, 2}, mut(3, ref(4))), str("Mix", []int{5, 6}, mut(7, ref(8)))
	}
	a, b := make1()
	l, _ := sub.Pairs(ways, a, b)
	l[0] = [2]int{77, 77}
	sub.Both(ways, a, b)
	x, y := make1()
	if !reflect.DeepEqual(a, x) || !reflect.DeepEqual(b, y) {
		t.Error(a, b)
	}
	does(t, a, b, [2]int{1, 5}, [2]int{6, 2}, [2]int{3, 7}, [2]int{7, 3}, [2]int{4, 8}, [2]int{8, 4})
}

// P10.1: types that lie 2^16 deep in one another.
func TestDeep(t *testing.T) {
	deep := func(r int) T {
		x := ref(r, integer)
		for i := range 1<<16 - 3 {
			switch i % 3 {
			case 0:
				x = box(x)
			case 1:
				x = str("Contra", nil, x)
			case 2:
				x = ref(r, x)
			}
		}
		return x
	}
	got, ok := sub.Pairs(ways, deep(1), deep(2))
	if n := 1 + (1<<16-3)/3; !ok || len(got) != n || got[0] != [2]int{1, 2} || got[1] != [2]int{2, 1} {
		t.Error(ok, len(got), n)
	}
	if _, ok := sub.Pairs(ways, deep(1), box(deep(2))); ok {
		t.Error("unlike")
	}
}
