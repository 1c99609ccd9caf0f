package high_test

import (
	"math"
	"reflect"
	"testing"

	"chattel/high"
	"chattel/types"
	"chattel/vary"
)

type (
	T      = types.Type
	World  = high.World
	Scheme = high.Scheme
	pairs  = [][2]int
)

var integer = T{Kind: types.Int}

func ref(r int, a ...T) T { return T{Kind: types.Ref, Region: r, Args: a} }

func mut(r int, a ...T) T { return T{Kind: types.Ref, Mut: true, Region: r, Args: a} }

func box(a ...T) T { return T{Kind: types.Box, Args: a} }

func dyn(r int) T { return T{Kind: types.Dyn, Name: "Q", Region: r} }

func param(r int) T { return T{Kind: types.Param, Name: "T", Region: r} }

func str(s string, l []int, a ...T) T {
	return T{Kind: types.Struct, Name: s, Regions: l, Args: a}
}

// fn: a scheme with so many lifetimes of its own, that says outs, of one to another type.
func fn(bound int, outs pairs, ret T, params ...T) Scheme {
	return Scheme{Bound: bound, Outs: outs, Params: params, Ret: ret}
}

// iref: a reference to an int.
func iref(r int) T { return ref(r, integer) }

// P11.1: the chapter's example.
func TestExample(t *testing.T) {
	any, static := fn(1, nil, iref(1), iref(1)), fn(1, nil, iref(1), iref(0))
	if !high.Test(World{}, any, static) || high.Test(World{}, static, any) {
		t.Error("a function for all lifetimes, and one for 'static")
	}
}

// row is two schemes in a world, and whether the first does where the second is asked for.
type row struct {
	what string
	w    World
	a, b Scheme
	want bool
}

func check(t *testing.T, rows []row) {
	t.Helper()
	for _, r := range rows {
		if got := high.Test(r.w, r.a, r.b); got != r.want {
			t.Errorf("%s: %v", r.what, got)
		}
	}
}

// P11.1: parameters against, what is answered along; a's own lifetimes are found, b's own are any.
func TestTypes(t *testing.T) {
	unit := T{Kind: types.Unit}
	both := fn(1, nil, iref(1), iref(1), iref(1))
	check(t, []row{
		{"nothing", World{}, Scheme{}, Scheme{}, true},
		{"no lifetimes", World{}, fn(0, nil, integer, integer), fn(0, nil, integer, integer), true},
		{"an answer that lasts longer", World{}, fn(0, nil, iref(0)), fn(1, nil, iref(1)), true},
		{"an answer that may be shorter", World{}, fn(1, nil, iref(1), iref(1)), fn(1, nil, iref(0), iref(1)), false},
		{"an answer of any lifetime", World{}, fn(1, nil, iref(1)), fn(0, nil, iref(0)), true},
		{"a parameter of 'static", World{}, fn(0, nil, unit, iref(0)), fn(1, nil, unit, iref(1)), false},
		{"a parameter of any lifetime", World{}, fn(1, nil, unit, iref(1)), fn(0, nil, unit, iref(0)), true},
		{"one lifetime for two", World{}, both, fn(2, nil, iref(1), iref(1), iref(2)), false},
		{"one lifetime for two that are said", World{}, both, fn(2, pairs{{2, 1}}, iref(1), iref(1), iref(2)), true},
		{"said the other way about", World{}, both, fn(2, pairs{{1, 2}}, iref(1), iref(1), iref(2)), false},
		{"the shorter one is answered", World{}, both, fn(3, pairs{{1, 3}, {2, 3}}, iref(3), iref(1), iref(2)), true},
		{"two for one", World{}, fn(2, nil, iref(2), iref(1), iref(2)), fn(1, nil, iref(1), iref(1), iref(1)), true},
		{"another one is answered", World{}, fn(2, nil, iref(2), iref(1), iref(2)), fn(2, nil, iref(1), iref(1), iref(2)), false},
		{"a Box", World{}, fn(1, nil, box(iref(1)), box(iref(1))), fn(1, nil, box(iref(1)), box(iref(0))), true},
		{"a dyn", World{}, fn(1, nil, box(dyn(1)), iref(1)), fn(2, nil, box(dyn(2)), iref(1)), false},
		{"a dyn that is said", World{}, fn(1, nil, box(dyn(1)), iref(1)), fn(2, pairs{{1, 2}}, box(dyn(2)), iref(1)), true},
		{"a type parameter's region says nothing", World{Free: 2}, fn(0, nil, param(1), param(2)), fn(0, nil, param(2), param(1)), true},
	})
}

// P11.1: behind & mut regions are the same.
func TestMut(t *testing.T) {
	unit := T{Kind: types.Unit}
	in := func(r int) T { return mut(1, iref(r)) }
	check(t, []row{
		{"its own lifetime", World{}, fn(1, nil, unit, mut(1, iref(1))), fn(1, nil, unit, mut(1, iref(1))), true},
		{"longer ahead", World{}, fn(1, nil, unit, mut(1, integer)), fn(0, nil, unit, mut(0, integer)), true},
		{"longer behind", World{}, fn(1, nil, unit, in(0)), fn(1, nil, unit, in(1)), false},
		{"one that is 'static behind", World{}, fn(1, nil, unit, mut(1, iref(1))), fn(1, nil, unit, in(0)), false},
		{"one that is said to be 'static", World{}, fn(1, nil, unit, mut(1, iref(1))), fn(1, pairs{{1, 0}}, unit, in(0)), true},
		{"one for two", World{}, fn(1, nil, unit, in(1), in(1)), fn(2, nil, unit, mut(1, iref(1)), mut(1, iref(2))), false},
		{"one for two that are the same", World{}, fn(1, nil, unit, in(1), in(1)), fn(2, pairs{{1, 2}, {2, 1}}, unit, mut(1, iref(1)), mut(1, iref(2))), true},
	})
}

// P11.1: what a says is asked, what b says and the world knows is known.
func TestSaid(t *testing.T) {
	unit := T{Kind: types.Unit}
	two := func(outs ...[2]int) Scheme { return fn(2, outs, unit, mut(1, iref(1)), mut(2, iref(2))) }
	nested := func(outs ...[2]int) Scheme { return fn(3, outs, unit, mut(3, mut(1, iref(2)))) }
	free := func(a, b int) Scheme { return fn(0, nil, iref(b), iref(a)) }
	any := fn(1, nil, iref(5), iref(5))
	check(t, []row{
		{"nobody says it", World{}, two([2]int{1, 2}), two(), false},
		{"both say it", World{}, two([2]int{1, 2}), two([2]int{1, 2}), true},
		{"b says more", World{}, two(), two([2]int{1, 2}), true},
		{"b says the other one", World{}, two([2]int{1, 2}), two([2]int{2, 1}), false},
		{"b says it in two steps", World{}, fn(3, pairs{{1, 3}}, unit, mut(0, iref(1)), mut(0, iref(2)), mut(0, iref(3))), fn(3, pairs{{1, 2}, {2, 3}}, unit, mut(0, iref(1)), mut(0, iref(2)), mut(0, iref(3))), true},
		{"what outlives 'static outlives all", World{}, two([2]int{1, 2}), two([2]int{1, 0}), true},
		{"'static outlives all", World{}, two([2]int{0, 2}), two(), true},
		{"nothing outlives 'static", World{}, two([2]int{2, 0}), two(), false},
		{"b's type is one", World{}, nested([2]int{2, 1}), nested(), true},
		{"and says no more", World{}, nested([2]int{1, 2}), nested(), false},
		{"the world knows it", World{Free: 4, Known: pairs{{1, 2}}}, any, free(1, 2), true},
		{"the world knows the other one", World{Free: 4, Known: pairs{{2, 1}}}, any, free(1, 2), false},
		{"the world knows it in two steps", World{Free: 4, Known: pairs{{3, 2}, {1, 3}}}, any, free(1, 2), true},
		{"the world knows nothing", World{Free: 4}, any, free(1, 2), false},
		{"the same region", World{Free: 4}, any, free(3, 3), true},
		{"the world knows of b's own", World{Known: pairs{{1, 2}}}, two([2]int{1, 2}), two(), true},
		{"the world doesn't know of a's own", World{Known: pairs{{1, 2}}}, fn(2, pairs{{1, 2}}, unit, mut(2, iref(2)), mut(1, iref(1))), two(), false},
		{"a asks of free ones", World{Free: 2}, fn(0, pairs{{1, 2}}, unit), Scheme{Ret: unit}, false},
		{"a asks of free ones, and it is known", World{Free: 2, Known: pairs{{1, 2}}}, fn(0, pairs{{1, 2}}, unit), Scheme{Ret: unit}, true},
		{"a asks of free ones, and b says it", World{Free: 2}, fn(0, pairs{{1, 2}}, unit), fn(0, pairs{{1, 2}}, unit), true},
	})
}

// P11.1: a's types are ones, too.
func TestWf(t *testing.T) {
	unit := T{Kind: types.Unit}
	// The pairs are asked of a alone: its types have what b's haven't, at places where regions say nothing else.
	needs := types.Needs{"S": {{1, 2}}, "V": {{3, 1}}}
	none := vary.Ways{"S": {0, 0}, "V": {0, 0, 0}}
	w := World{Free: 3, Needs: needs, Ways: none}
	s := func(a, b int) T { return str("S", []int{a, b}) }
	v := func(a, b int) T { return str("V", []int{a, 0}, iref(b)) }
	knows := func(known ...[2]int) World { return World{Free: 3, Needs: needs, Ways: none, Known: known} }
	check(t, []row{
		{"a's parameter", w, fn(0, nil, unit, s(1, 2)), fn(0, nil, unit, s(3, 3)), false},
		{"a's parameter, known", knows([2]int{1, 2}), fn(0, nil, unit, s(1, 2)), fn(0, nil, unit, s(3, 3)), true},
		{"a's parameter, as b's", w, fn(0, nil, unit, s(1, 2)), fn(0, nil, unit, s(1, 2)), true},
		{"a's answer", w, fn(0, nil, s(1, 2)), fn(0, nil, s(3, 3)), false},
		{"a's answer, as b's", w, fn(0, nil, s(1, 2)), fn(0, nil, s(1, 2)), true},
		{"b's answer is known", w, fn(0, nil, s(3, 3), s(1, 2)), fn(0, nil, s(1, 2), s(3, 3)), true},
		{"b's parameter is known", w, fn(0, nil, s(1, 2), s(3, 3)), fn(0, nil, s(3, 3), s(1, 2)), true},
		{"a type in a struct", w, fn(0, nil, v(1, 2)), fn(0, nil, v(3, 3)), false},
		{"a type in a struct, as b's", w, fn(0, nil, v(1, 2)), fn(0, nil, v(1, 2)), true},
		{"no needs", World{Free: 3, Ways: none}, fn(0, nil, unit, s(1, 2)), fn(0, nil, unit, s(3, 3)), true},
		{"a reference in a reference", World{Free: 3, Ways: none, Known: pairs{{1, 2}}}, fn(0, nil, unit, ref(1, iref(2))), fn(0, nil, unit, ref(1, iref(1))), false},
		{"a reference in a reference, said", World{Free: 3, Known: pairs{{1, 2}, {2, 1}}}, fn(0, nil, unit, ref(1, iref(2))), fn(0, nil, unit, ref(1, iref(1))), true},
	})
}

// P11.1: structs as the world's Ways say.
func TestWays(t *testing.T) {
	unit := T{Kind: types.Unit}
	w := World{Ways: vary.Ways{"Co": {1}, "Contra": {2}, "None": {0}, "Inv": {3}}}
	for name, want := range map[string][2]bool{"Co": {true, false}, "Contra": {false, true}, "None": {true, true}, "Inv": {false, false}, "Other": {false, false}} {
		static, any := fn(0, nil, str(name, []int{0})), fn(1, nil, str(name, []int{1}))
		param := func(s Scheme) Scheme { return fn(s.Bound, nil, unit, s.Ret) }
		other := fn(1, nil, str(name, []int{1}), param(any).Params[0])
		check(t, []row{
			{name + ", answered", w, static, any, want[0]},
			{name + ", as a parameter", w, param(static), param(any), want[1]},
			{name + ", answered as it came", w, other, other, true},
			{name + ", of any lifetime", w, any, static, true},
		})
	}
}

// chain: a's own lifetimes in a long row, from the parameter to what is answered.
func chain(n int) Scheme {
	s := fn(n, nil, iref(n), iref(1))
	for i := range n - 1 {
		s.Outs = append(s.Outs, [2]int{i + 1, i + 2})
	}
	return s
}

// P11.1: a way by many lifetimes of a's own.
func TestChain(t *testing.T) {
	for _, n := range []int{1, 2, 3, 100, 300} {
		a := chain(n)
		check(t, []row{
			{"the same lifetime", World{}, a, fn(1, nil, iref(1), iref(1)), true},
			{"another one", World{}, a, fn(2, nil, iref(2), iref(1)), false},
			{"another one that is said", World{}, a, fn(2, pairs{{1, 2}}, iref(2), iref(1)), true},
			{"the other way about", World{}, a, fn(2, pairs{{2, 1}}, iref(2), iref(1)), false},
			{"a row as long", World{}, a, chain(n), true},
			{"the longest row", World{}, a, chain(300), true},
			{"from 'static", World{}, a, fn(300, nil, iref(300), iref(0)), true},
		})
	}
	broken := chain(300)
	broken.Outs = append(broken.Outs[:150:150], broken.Outs[151:]...)
	check(t, []row{
		{"where the row of a is broken", World{}, broken, fn(2, nil, iref(2), iref(1)), true},
		{"where the row of b is broken", World{}, chain(300), broken, false},
	})
}

// P11.1: how many free ones and own ones there may be.
func TestLimits(t *testing.T) {
	test := func(free, a, b int, want bool) {
		t.Helper()
		last := fn(a, nil, iref(max(free, 0)+max(a, 0)))
		if got := high.Test(World{Free: free}, last, Scheme{Bound: b, Ret: iref(0)}); got != want {
			t.Error(free, a, b, got)
		}
	}
	for _, p := range [][3]int{{0, 300, 300}, {299, 1, 1}, {0, 300, 0}, {1, 299, 299}, {150, 150, 150}, {0, 1, 0}} {
		test(p[0], p[1], p[2], true)
	}
	for _, p := range [][3]int{{0, 301, 0}, {0, 1, 301}, {301, 0, 0}, {300, 1, 0}, {300, 0, 1}, {299, 2, 1}, {299, 1, 2}, {150, 151, 0}, {-1, 5, 5}, {-1, 0, 0}, {5, -1, 0}, {5, 1, -1}, {5, -5, -5},
		{math.MaxInt, 1, 0}, {math.MaxInt, 0, math.MaxInt}, {1, math.MaxInt, 0}, {1, 1, math.MaxInt}, {math.MinInt, math.MinInt, math.MinInt}, {5, math.MinInt, 0}} {
		test(p[0], p[1], p[2], false)
	}
	if !high.Test(World{Free: 300}, fn(0, nil, iref(300), iref(300)), fn(0, nil, iref(300), iref(300))) {
		t.Error("300 free ones")
	}
}

// P11.1: regions that aren't there, wherever they stand.
func TestNotThere(t *testing.T) {
	w := World{Free: 2, Known: pairs{{0, 1}}}
	a, b := fn(1, pairs{{3, 0}}, iref(3), iref(3)), fn(2, pairs{{3, 4}}, iref(4), iref(3))
	w.Known = append(w.Known, [2]int{4, 3}) // Free and b's Bound
	if high.Test(w, a, b) {
		t.Error("b's lifetime doesn't outlive 'static")
	}
	a.Outs = pairs{{0, 3}}
	if !high.Test(w, a, b) {
		t.Fatal("all are there")
	}
	for _, r := range []int{-1, 4, 5, 300, 301, math.MaxInt, math.MinInt} {
		for _, s := range []Scheme{
			fn(1, pairs{{0, 3}, {r, 0}}, iref(3), iref(3)), fn(1, pairs{{0, r}}, iref(3), iref(3)), fn(1, nil, iref(3), iref(r)), fn(1, nil, iref(r), iref(3)),
			fn(1, nil, iref(3), iref(3), integer, box(iref(r))),
		} {
			if high.Test(w, s, fn(2, nil, iref(0), s.Params...)) {
				t.Error("a", r, s)
			}
		}
	}
	for _, r := range []int{-1, 5, 6, 300, 301, math.MaxInt, math.MinInt} {
		for _, s := range []Scheme{
			fn(2, pairs{{0, 3}, {r, 0}}, iref(4), iref(3)), fn(2, pairs{{r, 0}}, iref(4), iref(0)), fn(2, pairs{{0, r}}, iref(4), iref(0)), fn(2, nil, iref(4), iref(r)), fn(2, nil, iref(r), iref(0)),
		} {
			if high.Test(w, fn(0, nil, iref(0), iref(1)), s) || high.Test(w, fn(1, nil, iref(3), iref(3)), s) {
				t.Error("b", r, s)
			}
		}
		for _, p := range [][2]int{{r, 0}, {0, r}, {1, r}, {r, r}} {
			if high.Test(World{Free: 2, Known: append(w.Known[:1:1], p)}, a, b) {
				t.Error("known", p)
			}
		}
	}
	// Known has regions up to b's own, however many a has.
	if high.Test(World{Free: 2, Known: pairs{{0, 4}}}, fn(5, nil, integer), fn(1, nil, integer)) || !high.Test(World{Free: 2, Known: pairs{{0, 4}}}, fn(0, nil, integer), fn(2, nil, integer)) {
		t.Error("known of a's own")
	}
}

// P11.1: types that never do, and unlike numbers of parameters.
func TestNever(t *testing.T) {
	one := fn(0, nil, integer, integer, iref(0))
	for _, s := range []Scheme{
		fn(0, nil, integer, integer), fn(0, nil, integer, integer, iref(0), integer), fn(0, nil, integer), fn(0, nil, integer, iref(0), integer),
		fn(0, nil, iref(0), integer, iref(0)), fn(0, nil, T{Kind: types.Bool}, integer, iref(0)), fn(0, nil, T{}, integer, iref(0)),
		fn(0, nil, integer, integer, mut(0, integer)), fn(0, nil, integer, integer, ref(0)), fn(0, nil, integer, integer, ref(0, iref(0))),
		fn(0, nil, integer, param(0), iref(0)), fn(0, nil, integer, integer, str("S", []int{0})),
	} {
		if high.Test(World{}, one, s) || high.Test(World{}, s, one) || !high.Test(World{}, s, s) {
			t.Error(s)
		}
	}
	if high.Test(World{}, fn(0, nil, str("S", []int{0})), fn(0, nil, str("S", []int{0, 0}))) || high.Test(World{}, fn(0, nil, str("S", nil)), fn(0, nil, str("R", nil))) {
		t.Error("unlike structs")
	}
}

// P11.1 (rule 6): types of no kind, with what their kind doesn't have.
func TestOdd(t *testing.T) {
	odd := []T{{}, {Kind: -1, Region: 99, Regions: []int{-5}}, {Kind: 77, Args: []T{iref(1)}}, {Kind: types.Box, Region: 99}, {Kind: types.Ref, Region: 1, Regions: []int{-1}}, {Kind: types.Int, Region: -9, Args: []T{dyn(1)}}, {Kind: types.Struct, Name: "", Regions: []int{1, 1}}, {Kind: types.Param, Region: 1, Args: []T{param(1)}}, {Kind: types.Dyn, Args: []T{iref(1), iref(1)}}}
	w := World{Needs: types.Needs{"": {{1, 2}, {5, 5}, {-1, 0}, {0, 1}}}, Ways: vary.Ways{"": {1}}}
	for _, x := range odd {
		s := fn(1, nil, x, x)
		if !high.Test(w, s, s) {
			t.Error(types.Text(x))
		}
	}
}

// P11.1: types that lie 2^16 deep in one another.
func TestDeep(t *testing.T) {
	deep := func(last int) T {
		x := iref(last)
		for i := range 1<<16 - 2 {
			x = ref(1+i%2, x)
		}
		return x
	}
	a, b := fn(3, nil, iref(3), deep(3)), fn(3, nil, iref(3), deep(3))
	check(t, []row{
		{"the same", World{}, a, b, true},
		{"a longer answer", World{}, a, fn(3, nil, iref(0), deep(3)), false},
		{"what is deep is known", World{}, fn(3, pairs{{3, 1}, {1, 2}, {2, 1}}, iref(3), deep(3)), b, true},
		{"and no more", World{}, fn(3, pairs{{1, 3}}, iref(3), deep(3)), b, false},
		{"behind & mut", World{}, fn(3, pairs{{3, 1}}, iref(3), mut(1, deep(3))), fn(3, nil, iref(3), mut(1, deep(3))), true},
		{"no more behind & mut", World{}, fn(3, pairs{{1, 3}}, iref(3), mut(1, deep(3))), fn(3, nil, iref(3), mut(1, deep(3))), false},
	})
}

// P11.1 (rules 3 to 5): nothing that is handed in is changed, and the same is answered again.
func TestUnchanged(t *testing.T) {
	given := func() (World, Scheme, Scheme) {
		w := World{Free: 1, Known: append([][2]int{}, [2]int{0, 1}), Ways: vary.Ways{"S": {1, 1}}, Needs: types.Needs{"S": {{1, 2}}}}
		a := Scheme{Bound: 2, Outs: append(roomy(), [2]int{2, 3}), Params: append([]T{}, str("S", []int{2, 3}), iref(1)), Ret: ref(3, iref(2))}
		b := Scheme{Bound: 3, Outs: append(roomy(), [2]int{2, 4}), Params: append([]T{}, str("S", []int{2, 4}), iref(1)), Ret: ref(4, iref(2))}
		return w, a, b
	}
	w, a, b := given()
	for range 3 {
		if !high.Test(w, a, b) {
			t.Error("does")
		}
	}
	w2, a2, b2 := given()
	if !reflect.DeepEqual([]any{w, a, b}, []any{w2, a2, b2}) || a.Outs[:2][1] != [2]int{7, 7} || b.Outs[:2][1] != [2]int{7, 7} {
		t.Error(w, a, b)
	}
	empty := Scheme{Outs: pairs{}, Params: []T{}, Ret: T{Kind: types.Unit, Args: []T{}}}
	if !high.Test(World{Known: pairs{}, Ways: vary.Ways{}, Needs: types.Needs{}}, empty, Scheme{Ret: T{Kind: types.Unit}}) || !high.Test(World{}, Scheme{Ret: T{Kind: types.Unit}}, empty) {
		t.Error("nil and empty")
	}
}

// roomy: an empty list with spare room, in which something lies.
func roomy() pairs {
	return append(pairs{}, [2]int{7, 7}, [2]int{7, 7})[:0]
}
