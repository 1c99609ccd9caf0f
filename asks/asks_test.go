package asks_test

import (
	"maps"
	"math/rand"
	"reflect"
	"testing"

	"chattel/asks"
	"chattel/types"
)

type T = types.Type

func ref(r int, a ...T) T { return T{Kind: types.Ref, Region: r, Args: a} }

func set(l [][2]int) map[[2]int]int {
	m := map[[2]int]int{}
	for _, p := range l {
		m[p] = 1
	}
	return m
}

func told(x T, needs types.Needs) [][2]int {
	var l [][2]int
	asks.Each(x, needs, func(p [2]int) { l = append(l, p) })
	return l
}

// typ: a type of any kind, over structs S and R, so many deep at most.
func typ(rnd *rand.Rand, deep int) T {
	x := T{Kind: rnd.Intn(12), Name: []string{"S", "R", "Q"}[rnd.Intn(3)], Region: rnd.Intn(5)}
	for range rnd.Intn(3) {
		x.Regions = append(x.Regions, rnd.Intn(5))
	}
	if deep > 0 {
		for range rnd.Intn(3) {
			x.Args = append(x.Args, typ(rnd, deep-1))
		}
	}
	return x
}

// What is told is what layer 7's Wf says, no more and no less.
func TestEach(t *testing.T) {
	needs := types.Needs{"S": {{1, 2}, {3, 1}, {0, 3}, {2, 0}}, "R": {{1, 1}, {4, 2}, {9, 1}, {1, -1}}}
	for seed := range int64(20000) {
		x := typ(rand.New(rand.NewSource(seed)), 4)
		before := types.Map(x, nil)
		if got, want := set(told(x, needs)), set(types.Wf(x, needs)); !maps.Equal(got, want) {
			t.Fatalf("%s: %v, want %v", types.Text(x), got, want)
		}
		if !reflect.DeepEqual(types.Map(x, nil), before) {
			t.Fatalf("%s is changed", types.Text(x))
		}
	}
}

// What a deep type asks is told in no more than so many pairs a part as there are regions.
func TestDeep(t *testing.T) {
	const n, regions = 1 << 16, 20
	x := T{Kind: types.Int}
	for i := range n {
		x = ref(i%regions, x)
	}
	if l := told(x, nil); len(l) > n*regions || len(set(l)) != regions*regions {
		t.Error(len(l), len(set(l)))
	}
}
