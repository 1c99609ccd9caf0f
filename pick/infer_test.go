package pick_test

import (
	"math/rand"
	"reflect"
	"slices"
	"testing"

	"chattel/pick"
	"chattel/types"
)

func list(l ...T) []T { return l }

// P16.1: what parameters stand for.
func TestInfer(t *testing.T) {
	tt, u := param("T", 1), param("U", 2)
	for _, c := range []struct {
		names            []string
		want, have, told []T
	}{
		{nil, nil, nil, nil},
		{nil, list(integer, tt), list(boolean, unit), nil},
		{[]string{"T"}, list(tt), list(integer), list(integer)},
		{[]string{"T"}, list(tt), list(ref(7, str("S", []int{8, 9}, param("T", 4)))), list(ref(0, str("S", []int{0, 0}, param("T", 0))))},
		{[]string{"U", "T"}, list(box(tt), ref(1, u)), list(box(boolean), ref(9, float)), list(float, boolean)},
		{[]string{"T", "U"}, list(str("S", []int{1}, tt, u, tt)), list(str("S", []int{5}, ref(3, unit), integer, ref(4, unit))), list(ref(0, unit), integer)},
		// Pairs without such a parameter are asked nothing.
		{[]string{"T"}, list(integer, tt, u, box(u)), list(boolean, integer, unit, box()), list(integer)},
		// One may stand more than once, for the same but for regions.
		{[]string{"T"}, list(tt, tt, box(tt)), list(ref(1, integer), ref(2, integer), box(ref(0, integer))), list(ref(0, integer))},
		// A parameter that isn't asked for stands for itself.
		{[]string{"T"}, list(str("S", nil, tt, u)), list(str("S", nil, integer, param("U", 8))), list(integer)},
		// A dyn may stand within what is there, not at its head.
		{[]string{"T"}, list(tt), list(box(dyn("A", 3))), list(box(dyn("A", 0)))},
		{[]string{"T"}, list(box(tt), ref(1, dyn("A", 1))), list(box(unit), ref(1, dyn("B", 1))), list(unit)},
		// Its own Args are not gone into; those of another parameter are.
		{[]string{"T"}, list(param("T", 1, integer, tt)), list(boolean), list(boolean)},
		{[]string{"T"}, list(param("U", 1, tt)), list(param("U", 7, unit)), list(unit)},
		// How many regions a struct has isn't asked.
		{[]string{"T"}, list(str("S", []int{1, 2}, tt)), list(str("S", nil, unit)), list(unit)},
		// What is there may be a parameter, also one that is asked for.
		{[]string{"T", "U"}, list(tt, u), list(param("U", 3), param("T", 4)), list(param("U", 0), param("T", 0))},
		{[]string{"T"}, list(T{Kind: 12, Name: "x", Mut: true, Args: list(tt)}), list(T{Kind: 12, Name: "x", Mut: true, Args: list(unit)}), list(unit)},
		{[]string{"T", "T"}, list(tt), list(integer), list(integer, integer)},
		{[]string{""}, list(param("", 1)), list(integer), list(integer)},
		{[]string{"T"}, list(tt), list(T{Kind: 0}), list(T{})},
	} {
		got, ok := pick.Infer(c.names, c.want, c.have)
		if !ok || len(got) != len(c.told) || len(got) > 0 && !reflect.DeepEqual(got, c.told) {
			t.Errorf("%v, %+v, %+v: %+v %v", c.names, c.want, c.have, got, ok)
		}
	}
}

// P16.1: it isn't so; one is nowhere; unlike numbers.
func TestInferNot(t *testing.T) {
	tt, u := param("T", 1), param("U", 2)
	for _, c := range []struct {
		names      []string
		want, have []T
	}{
		{[]string{"T"}, nil, nil},
		{[]string{"T"}, list(integer), list(integer)},
		{[]string{"T", "U"}, list(tt), list(integer)},
		{[]string{"U", "T"}, list(tt), list(integer)},
		{[]string{"T", "U"}, list(param("T", 1, u)), list(integer)},
		{[]string{"T"}, list(tt), nil},
		{[]string{"T"}, list(tt), list(integer, integer)},
		{nil, nil, list(integer)},
		{nil, list(integer), nil},
		{[]string{"T"}, list(tt), list(dyn("A", 1))},
		{[]string{"T"}, list(box(tt)), list(box(dyn("A", 1)))},
		{[]string{"T"}, list(tt, tt), list(integer, dyn("A", 1))},
		{[]string{"T"}, list(tt, tt), list(integer, boolean)},
		{[]string{"T"}, list(str("S", nil, tt, tt)), list(str("S", nil, ref(1, integer), mut(1, integer)))},
		{[]string{"T"}, list(tt, tt), list(str("S", []int{1}), str("S", nil))},
		{[]string{"T"}, list(box(tt)), list(ref(1, integer))},
		{[]string{"T"}, list(ref(1, tt)), list(mut(1, integer))},
		{[]string{"T"}, list(str("S", nil, tt)), list(str("R", nil, integer))},
		{[]string{"T"}, list(str("S", nil, tt)), list(str("S", nil, integer, integer))},
		{[]string{"T"}, list(str("S", nil, tt, integer)), list(str("S", nil, integer))},
		{[]string{"T"}, list(str("S", nil, tt, integer)), list(str("S", nil, integer, boolean))},
		{[]string{"T"}, list(str("S", nil, tt, u)), list(str("S", nil, integer, integer))},
		{[]string{"T"}, list(str("S", nil, tt, u)), list(str("S", nil, integer, param("V", 2)))},
		{[]string{"T"}, list(str("S", nil, tt, dyn("A", 1))), list(str("S", nil, integer, dyn("B", 1)))},
		{[]string{"T"}, list(param("U", 1, tt)), list(param("U", 1))},
		{[]string{"T"}, list(box(tt)), list(box())},
		{[]string{"A"}, list(dyn("A", 1)), list(integer)},
		{[]string{"S"}, list(str("S", nil)), list(integer)},
		{[]string{"T"}, list(T{Kind: types.Box, Mut: true, Args: list(tt)}), list(box(integer))},
		{[]string{"T"}, list(T{Kind: types.Box, Name: "x", Args: list(tt)}), list(box(integer))},
	} {
		if got, ok := pick.Infer(c.names, c.want, c.have); ok || got != nil {
			t.Errorf("%v, %+v, %+v: %+v", c.names, c.want, c.have, got)
		}
	}
}

// other: the same type with other regions.
func other(r *rand.Rand, t T) T { return types.Map(t, func(int) int { return r.Intn(9) }) }

// P16.2: what Infer answers, put in, is what is there, but for regions; and where types are made by putting them in, it answers these.
func TestInferPutIn(t *testing.T) {
	r := rand.New(rand.NewSource(18))
	found, refused := 0, 0
	for range 20000 {
		var want, have []T
		names := [][]string{nil, {"T"}, {"U"}, {"U", "T"}}[r.Intn(4)]
		args := list(anyType(r, 2), anyType(r, 2))
		for range r.Intn(4) {
			w := anyType(r, 3)
			want = append(want, w)
			have = append(have, other(r, types.Inst(w, nil, names, args)))
		}
		if r.Intn(3) == 0 && len(have) > 0 {
			have[r.Intn(len(have))] = anyType(r, 3)
		}
		got, ok := pick.Infer(names, want, have)
		if might := fit(names, want, have); ok != might {
			t.Fatalf("%+v, %+v: %v", want, have, ok)
		}
		if !ok {
			refused++
			continue
		}
		found++
		for i, w := range want {
			if put := types.Inst(w, nil, names, got); asked(names, w) && !types.Same(put, have[i]) {
				t.Fatalf("%s, %s: %s", types.Text(w), types.Text(have[i]), types.Text(put))
			}
		}
		for _, x := range got {
			if x.Kind == types.Dyn || !types.Equal(x, types.Erase(x)) {
				t.Fatalf("%+v", x)
			}
		}
	}
	if found < 1000 || refused < 1000 {
		t.Error(found, refused)
	}
}

// asked: has a type one of these parameters?
func asked(names []string, t T) bool {
	return slices.ContainsFunc(types.Names(t), func(s string) bool { return slices.Contains(names, s) })
}

// fit: are there types, among all that are in what is there, that make of what is asked for what is there?
func fit(names []string, want, have []T) bool {
	var all []string
	for _, w := range want {
		all = append(all, types.Names(w)...)
	}
	var parts []T
	for _, h := range have {
		parts = append(parts, within(h)...)
	}
	var args []T
	for _, s := range names {
		if !slices.Contains(all, s) {
			return false
		}
		i := slices.IndexFunc(parts, func(x T) bool {
			return x.Kind != types.Dyn && placed(s, x, want, have)
		})
		if i < 0 {
			return false
		}
		args = append(args, parts[i])
	}
	for i, w := range want {
		if asked(names, w) && !types.Same(types.Inst(w, nil, names, args), have[i]) {
			return false
		}
	}
	return true
}

// within: a type, and all that are in it.
func within(t T) []T {
	l := list(t)
	for _, a := range t.Args {
		l = append(l, within(a)...)
	}
	return l
}

// placed: does a type stand, but for regions, wherever a parameter of that name does?
func placed(s string, x T, want, have []T) bool {
	for i, w := range want {
		mark := T{Kind: 99}
		a, b := flat(types.Inst(w, nil, []string{s}, list(mark))), have[i]
		for _, path := range a {
			y, ok := follow(b, path)
			if !ok || !types.Same(x, y) {
				return false
			}
		}
	}
	return true
}

// flat: the ways, from Args to Args, to all marks in a type.
func flat(t T) [][]int {
	if t.Kind == 99 {
		return [][]int{nil}
	}
	var l [][]int
	for i, a := range t.Args {
		for _, p := range flat(a) {
			l = append(l, append([]int{i}, p...))
		}
	}
	return l
}

// follow: what is at the end of such a way.
func follow(t T, path []int) (T, bool) {
	for _, i := range path {
		if i >= len(t.Args) {
			return T{}, false
		}
		t = t.Args[i]
	}
	return t, true
}

// P1: what is handed in stays as it is, and what is answered is new memory.
func TestInferNewMemory(t *testing.T) {
	make1 := func() T { return str("S", []int{1}, str("R", []int{2}, ref(3, integer))) }
	names := []string{"T", "U", "T"}
	want, have := list(param("T", 1), box(param("U", 2))), list(make1(), box(make1()))
	got, ok := pick.Infer(names, want, have)
	if !ok || len(got) != 3 {
		t.Fatal(got, ok)
	}
	got[0].Regions[0], got[0].Args[0].Regions[0], got[0].Args[0].Args[0].Region = 7, 7, 7
	for _, x := range list(have[0], have[1].Args[0]) {
		if !reflect.DeepEqual(x, make1()) {
			t.Errorf("%+v", x)
		}
	}
	for _, x := range got[1:] {
		if !types.Equal(x, types.Erase(make1())) {
			t.Errorf("%+v", x)
		}
	}
	if !slices.Equal(names, []string{"T", "U", "T"}) || !reflect.DeepEqual(want, list(param("T", 1), box(param("U", 2)))) {
		t.Error(names, want)
	}
}

// P16.1: types 2^16 deep.
func TestInferDeep(t *testing.T) {
	want, have := param("T", 1), str("S", []int{4})
	for range 1<<16 - 1 {
		want, have = ref(1, want), ref(2, have)
	}
	if l, ok := pick.Infer([]string{"T"}, list(want, want), list(have, have)); !ok || !reflect.DeepEqual(l, list(str("S", []int{0}))) {
		t.Error(len(l), ok)
	}
	if l, ok := pick.Infer([]string{"T"}, list(want, param("T", 1)), list(have, have)); ok || l != nil {
		t.Error(len(l), ok)
	}
	if l, ok := pick.Infer([]string{"T"}, list(param("T", 1)), list(have)); !ok || len(types.All(l[0])) != 1<<16 {
		t.Error(len(l), ok)
	}
}
