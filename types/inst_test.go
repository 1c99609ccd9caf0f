package types_test

import (
	"math"
	"reflect"
	"slices"
	"strings"
	"testing"

	"chattel/types"
)

// P7.1: Inst puts types in the places of parameters, and lifetimes in those of 1 to len(lifes).
func TestInst(t *testing.T) {
	x := str("S", []int{1, 2, 3, 0, -1}, param("T", 1), mut(2, param("U", 2)), box(dyn("Q", 1)))
	got := types.Inst(x, []int{21, 22}, []string{"T", "U"}, []T{ref(1, param("U", 3)), integer})
	want := str("S", []int{21, 22, 3, 0, -1}, ref(1, param("U", 3)), mut(22, integer), box(dyn("Q", 21)))
	if !reflect.DeepEqual(got, want) {
		t.Errorf("%+v", got)
	}
}

// P7.1: what comes in for a parameter is as it is: neither lifetimes nor parameters in it are changed.
func TestInstOnce(t *testing.T) {
	got := types.Inst(param("T", 1, integer), []int{9}, []string{"T", "U"}, []T{param("U", 1), param("T", 1)})
	if !reflect.DeepEqual(got, param("U", 1)) {
		t.Errorf("%+v", got)
	}
}

// P7.1: a parameter that isn't told stays, with its region; its Args are gone into.
func TestInstStays(t *testing.T) {
	for _, c := range []struct {
		names []string
		args  []T
	}{
		{nil, nil},
		{nil, []T{unit}},
		{[]string{"U"}, []T{unit}},
		{[]string{"T"}, nil},
		{[]string{"U", "T"}, []T{unit}},
		{[]string{"U", "T", "T"}, []T{unit}},
	} {
		got := types.Inst(param("T", 1, ref(1, integer)), []int{9}, c.names, c.args)
		if !reflect.DeepEqual(got, param("T", 1, ref(9, integer))) {
			t.Errorf("%v: %+v", c, got)
		}
	}
}

// P7.1: of a name that stands in names more than once the first place counts.
func TestInstFirst(t *testing.T) {
	got := types.Inst(param("T", 1), nil, []string{"U", "T", "T"}, []T{unit, integer, boolean})
	if !reflect.DeepEqual(got, integer) {
		t.Errorf("%+v", got)
	}
	if got := types.Inst(param("", 1), nil, []string{""}, []T{unit}); !reflect.DeepEqual(got, unit) {
		t.Errorf("%+v", got)
	}
}

// P7.1: only Params are put out of place, and only own regions are lifetimes.
func TestInstOdd(t *testing.T) {
	names, args := []string{"T", "Q", "S", "x"}, []T{unit, unit, unit, unit}
	for _, x := range []T{dyn("T", 5), str("S", []int{5}), {Kind: types.Int, Name: "x"}, {Kind: 0, Name: "T"}} {
		if got := types.Inst(x, []int{9}, names, args); !reflect.DeepEqual(got, x) {
			t.Errorf("%+v: %+v", x, got)
		}
	}
	x := T{Kind: types.Box, Region: 1, Regions: []int{1}, Args: []T{{Kind: types.Ref, Region: 1, Regions: []int{1}}}}
	want := T{Kind: types.Box, Region: 1, Regions: []int{1}, Args: []T{{Kind: types.Ref, Region: 9, Regions: []int{1}}}}
	if got := types.Inst(x, []int{9}, nil, nil); !reflect.DeepEqual(got, want) {
		t.Errorf("%+v", got)
	}
	if got := types.Inst(ref(math.MinInt, ref(math.MaxInt)), []int{9}, nil, nil); !reflect.DeepEqual(got, ref(math.MinInt, ref(math.MaxInt))) {
		t.Errorf("%+v", got)
	}
	l, s, a := []int{4}, []string{"T"}, []T{ref(1, integer)}
	types.Inst(ref(1, param("T", 1)), l, s, a)
	if !slices.Equal(l, []int{4}) || !slices.Equal(s, []string{"T"}) || !reflect.DeepEqual(a, []T{ref(1, integer)}) {
		t.Error(l, s, a)
	}
}

// P7.1: Wf of references: all in them outlives them, from outside in.
func TestWfRefs(t *testing.T) {
	wf(t, integer, nil)
	wf(t, ref(1, ref(2, integer)), nil, [2]int{2, 1})
	wf(t, ref(1, mut(2, ref(3, integer))), nil, [2]int{2, 1}, [2]int{3, 1}, [2]int{3, 2})
	wf(t, box(ref(1, box(dyn("Q", 4)))), nil, [2]int{4, 1})
	wf(t, ref(1, param("T", 5), str("S", []int{6, 1})), nil, [2]int{5, 1}, [2]int{6, 1}, [2]int{1, 1})
	wf(t, ref(0, ref(0, ref(0))), nil, [2]int{0, 0}, [2]int{0, 0}, [2]int{0, 0})
	wf(t, param("T", 1, ref(2, param("U", 3))), nil, [2]int{3, 2})
	wf(t, T{Kind: 13, Region: 4, Args: []T{ref(1, ref(2))}}, nil, [2]int{2, 1})
}

func wf(t *testing.T, x T, needs types.Needs, want ...[2]int) {
	t.Helper()
	if l := types.Wf(x, needs); !slices.Equal(l, want) {
		t.Errorf("%+v: %v, want %v", x, l, want)
	}
}

// P7.1: Wf of structs: what their slots need, slot by slot; then their Args.
func TestWfStructs(t *testing.T) {
	x := str("S", []int{11, 12}, ref(13, param("T", 14)), integer, mut(15))
	for _, c := range []struct {
		pair [2]int
		want [][2]int
	}{
		{[2]int{1, 2}, [][2]int{{11, 12}}},
		{[2]int{2, 1}, [][2]int{{12, 11}}},
		{[2]int{2, 2}, [][2]int{{12, 12}}},
		{[2]int{0, 1}, [][2]int{{0, 11}}},
		{[2]int{1, 0}, [][2]int{{11, 0}}},
		{[2]int{0, 0}, [][2]int{{0, 0}}},
		{[2]int{3, 1}, [][2]int{{13, 11}, {14, 11}}},
		{[2]int{3, 3}, [][2]int{{13, 13}, {13, 14}, {14, 13}, {14, 14}}},
		{[2]int{5, 3}, [][2]int{{15, 13}, {15, 14}}},
		{[2]int{4, 1}, nil},
		{[2]int{1, 4}, nil},
		{[2]int{6, 1}, nil},
		{[2]int{1, 6}, nil},
		{[2]int{-1, 1}, nil},
		{[2]int{1, -1}, nil},
		{[2]int{math.MaxInt, 1}, nil},
		{[2]int{1, math.MinInt}, nil},
	} {
		want := append(slices.Clone(c.want), [2]int{14, 13})
		wf(t, x, types.Needs{"S": {c.pair}}, want...)
		wf(t, x, types.Needs{"S": {{2, 1}, c.pair}, "R": {{1, 2}}}, append([][2]int{{12, 11}}, want...)...)
	}
	wf(t, x, nil, [2]int{14, 13})
	wf(t, x, types.Needs{"R": {{1, 2}}}, [2]int{14, 13})
}

// P7.1: Wf asks needs of Structs alone, by their names, also of those within others.
func TestWfWithin(t *testing.T) {
	needs := types.Needs{"S": {{2, 1}, {0, 2}}, "Q": {{0, 0}}, "": {{0, 0}}}
	x := str("S", []int{1, 2}, box(str("S", []int{3, 4}, dyn("Q", 6))), param("S", 5))
	wf(t, x, needs, [2]int{2, 1}, [2]int{0, 2}, [2]int{4, 3}, [2]int{0, 4})
	wf(t, ref(7, x), needs, [2]int{1, 7}, [2]int{2, 7}, [2]int{3, 7}, [2]int{4, 7}, [2]int{6, 7}, [2]int{5, 7},
		[2]int{2, 1}, [2]int{0, 2}, [2]int{4, 3}, [2]int{0, 4})
	for _, y := range []T{{Kind: types.Box, Name: "S", Regions: []int{1, 2}}, {Kind: types.Int}, {Kind: 99, Name: "S", Regions: []int{1, 2}}} {
		wf(t, y, needs)
	}
}

// P7.1: Text, of each kind.
func TestText(t *testing.T) {
	for _, c := range []struct {
		x    T
		want string
	}{
		{integer, "int"}, {boolean, "bool"}, {float, "f64"}, {unit, "()"},
		{str("S", nil), "S"},
		{str("S", []int{1, 20, 0}), "S'1'20'0"},
		{str("S", []int{1}, integer, param("T", 2)), "S'1<int><T?2>"},
		{box(integer), "Box<int>"}, {box(), "Box"},
		{ref(1, integer), "&1<int>"}, {mut(12, ref(0, unit)), "&12mut<&0<()>>"}, {mut(3), "&3mut"},
		{dyn("Quick", 7), "dyn Quick+7"}, {box(dyn("Q", 0)), "Box<dyn Q+0>"},
		{param("T", 10), "T?10"}, {param("T", 1, float), "T?1<f64>"},
		{ref(-1, dyn("Q", math.MinInt64)), "&-1<dyn Q+-9223372036854775808>"},
		{T{}, ""}, {T{Kind: 10, Name: "x", Region: 3, Regions: []int{1}, Args: []T{integer}}, "<int>"}, {T{Kind: -7, Mut: true}, ""},
		{T{Kind: types.Int, Name: "x", Mut: true, Region: 4, Regions: []int{5}, Args: []T{boolean}}, "int<bool>"},
		{T{Kind: types.Dyn, Name: "Q", Mut: true, Regions: []int{5}}, "dyn Q+0"},
		{T{Kind: types.Struct, Name: "S", Mut: true, Region: 5}, "S"},
	} {
		if s := types.Text(c.x); s != c.want {
			t.Errorf("%+v: %q, want %q", c.x, s, c.want)
		}
	}
}

// P7.1: of types that may be, with names that may be, unlike ones have unlike texts.
func TestTextTellsApart(t *testing.T) {
	seen := map[string]T{}
	for _, x := range small(2) {
		s := types.Text(x)
		if y, ok := seen[s]; ok && !types.Equal(x, y) {
			t.Fatalf("%q: %+v %+v", s, x, y)
		}
		seen[s] = x
		if strings.Count(s, "<") != strings.Count(s, ">") {
			t.Fatal(s)
		}
	}
}

// small: all types of few regions and names, so many deep.
func small(deep int) []T {
	l := []T{integer, boolean, unit, str("S", nil), str("S", []int{1}), str("S", []int{1, 2}), str("S", []int{12}), dyn("S", 1), dyn("S", 12), param("S", 1), param("S", 2)}
	if deep == 0 {
		return l
	}
	for _, a := range small(deep - 1) {
		l = append(l, box(a), ref(1, a), ref(2, a), mut(1, a), str("S", []int{1}, a))
		for _, b := range small(0) {
			l = append(l, str("S", nil, a, b))
		}
	}
	return l
}

// P7.1: a type that doubles at each of many steps is put in without copies of all that is in it.
func TestInstDoubles(t *testing.T) {
	x := ref(7, integer)
	for range 100 {
		x = types.Inst(str("Q", []int{1}, param("T", 2), param("T", 3)), []int{8}, []string{"T"}, []T{x})
	}
	for n := 100; n > 0; n-- {
		if x.Name != "Q" || !slices.Equal(x.Regions, []int{8}) || len(x.Args) != 2 {
			t.Fatal(n, x.Name, x.Regions, len(x.Args))
		}
		x = x.Args[n%2]
	}
	if !types.Equal(x, ref(7, integer)) {
		t.Errorf("%+v", x)
	}
}
