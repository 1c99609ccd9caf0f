package flow_test

import (
	"math"
	"math/rand"
	"reflect"
	"slices"
	"testing"

	"chattel/api"
	"chattel/flow"
)

type call = func(flow.Problem) (*flow.Answer, api.Errno)

// settled: what a call answers of a problem that may be.
func settled(t *testing.T, f call, p flow.Problem) *flow.Answer {
	t.Helper()
	a, e := f(p)
	if a == nil || e != api.OK {
		t.Fatalf("%+v: %v %v", p, a, e)
	}
	return a
}

// has: all calls tell that just these facts are at each node.
func has(t *testing.T, p flow.Problem, a *flow.Answer, want ...[]int) {
	t.Helper()
	for i := range len(p.Succ) {
		var l []int
		if i < len(want) {
			l = want[i]
		}
		if got := a.List(i); !slices.Equal(got, l) {
			t.Errorf("%+v: at %d %v, want %v", p, i, got, l)
		}
		for e := range p.Width {
			if a.Has(i, e) != slices.Contains(l, e) {
				t.Errorf("%+v: at %d, %d: %v", p, i, e, a.Has(i, e))
			}
		}
	}
}

func both(t *testing.T, p flow.Problem, forward, backward [][]int) {
	t.Helper()
	has(t, p, settled(t, flow.Forward, p), forward...)
	has(t, p, settled(t, flow.Backward, p), backward...)
}

// P15.1: the chapter's example.
func TestExample(t *testing.T) {
	p := flow.Problem{Succ: [][]int{{1}, {2}, nil}, Width: 1, Gen: [][]int{{0}}, Kill: [][]int{nil, {0}}}
	both(t, p, [][]int{nil, {0}, nil}, [][]int{{0}, nil, nil})
}

// P15.1: facts along a line, on both ways of a fork, round a circle.
func TestShapes(t *testing.T) {
	line := [][]int{{1}, {2}, {3}, nil}
	both(t, flow.Problem{Succ: line, Width: 3, Gen: [][]int{{2}, {0}, {1}}, Kill: [][]int{nil, nil, {2}}},
		[][]int{nil, {2}, {0, 2}, {0, 1}}, [][]int{{0, 1, 2}, {0, 1}, {1}, nil})
	fork := [][]int{{1, 2}, {3}, {3}, nil}
	both(t, flow.Problem{Succ: fork, Width: 2, Gen: [][]int{{0}, {1}}, Kill: [][]int{nil, {0}}},
		[][]int{nil, {0}, {0}, {0, 1}}, [][]int{{0, 1}, {1}, nil, nil})
	circle := [][]int{{1}, {2}, {0, 3}, nil}
	both(t, flow.Problem{Succ: circle, Width: 2, Gen: [][]int{nil, nil, {0}, {1}}, Kill: [][]int{nil, {0}}},
		[][]int{{0}, {0}, nil, {0}}, [][]int{{1}, {1}, {0, 1}, {1}})
	self := [][]int{{0}, {1, 0}}
	both(t, flow.Problem{Succ: self, Width: 2, Gen: [][]int{{0}, {1}}},
		[][]int{{0, 1}, {1}}, [][]int{{0}, {0, 1}})
}

// P15.1: a fact that a node both makes and ends is made.
func TestBoth(t *testing.T) {
	p := flow.Problem{Succ: [][]int{{1}, {2}, {}}, Width: 1, Gen: [][]int{nil, {0}}, Kill: [][]int{nil, {0}}}
	both(t, p, [][]int{nil, nil, {0}}, [][]int{{0}, {0}, nil})
	p.Gen, p.Kill = [][]int{{0, 0}, {0}}, [][]int{{0}, {0, 0}}
	both(t, p, [][]int{nil, {0}, {0}}, [][]int{{0}, {0}, nil})
}

// P15.1: Entry is ahead of node 0, and goes on from there; backward it is nothing.
func TestEntry(t *testing.T) {
	p := flow.Problem{Succ: [][]int{{1}, {2}, nil}, Width: 4, Entry: []int{3, 0, 3}, Gen: [][]int{{1}}, Kill: [][]int{{3}}}
	both(t, p, [][]int{{0, 3}, {0, 1}, {0, 1}}, [][]int{{1}, nil, nil})
	p.Gen = [][]int{{3}}
	both(t, p, [][]int{{0, 3}, {0, 3}, {0, 3}}, [][]int{{3}, nil, nil})
	p = flow.Problem{Succ: [][]int{{1}, {0}}, Width: 2, Entry: []int{1}, Kill: [][]int{nil, {1}}}
	both(t, p, [][]int{{1}, {1}}, nil)
	// A node 0 that other nodes don't come to has it all the same.
	both(t, flow.Problem{Succ: [][]int{nil, nil}, Width: 1, Entry: []int{0}}, [][]int{{0}, nil}, nil)
}

// P15.1: which problems may be; the errors in their order, of all three calls.
func TestCheck(t *testing.T) {
	chain := func(n int) [][]int { return make([][]int, n) }
	for _, c := range []struct {
		p    flow.Problem
		want api.Errno
	}{
		{flow.Problem{}, api.OK},
		{flow.Problem{Width: 4000, Entry: []int{0, 3999}}, api.OK},
		{flow.Problem{Succ: chain(1201), Width: 4000, Gen: chain(1201), Kill: chain(1201)}, api.OK},
		{flow.Problem{Succ: [][]int{{1, 0, 1}, {}}, Width: 1, Gen: [][]int{{0, 0}}, Kill: [][]int{{}, {0}}, Entry: []int{0, 0}}, api.OK},
		{flow.Problem{Succ: chain(1202)}, api.Limit},
		{flow.Problem{Width: 4001}, api.Limit},
		{flow.Problem{Width: -1}, api.Limit},
		{flow.Problem{Width: math.MaxInt}, api.Limit},
		{flow.Problem{Width: math.MinInt}, api.Limit},
		{flow.Problem{Succ: [][]int{{7}}, Width: -1}, api.Limit},
		{flow.Problem{Width: 4001, Gen: chain(1)}, api.Limit},
		{flow.Problem{Succ: [][]int{{1}}}, api.Range},
		{flow.Problem{Succ: [][]int{{0}, {0, -1}}}, api.Range},
		{flow.Problem{Succ: [][]int{{0}, {math.MaxInt}}}, api.Range},
		{flow.Problem{Succ: chain(2), Width: 3, Gen: [][]int{nil, {2, 3}}}, api.Range},
		{flow.Problem{Succ: chain(2), Width: 3, Gen: [][]int{{-1}}}, api.Range},
		{flow.Problem{Succ: chain(2), Width: 3, Kill: [][]int{nil, {2, 3}}}, api.Range},
		{flow.Problem{Succ: chain(2), Width: 3, Kill: [][]int{{-1}}}, api.Range},
		{flow.Problem{Succ: chain(2), Width: 3, Entry: []int{3}}, api.Range},
		{flow.Problem{Succ: chain(2), Width: 3, Entry: []int{0, math.MinInt}}, api.Range},
		{flow.Problem{Width: 3, Entry: []int{3}}, api.Range},
		{flow.Problem{Succ: chain(2), Gen: [][]int{{0}}}, api.Range},
		{flow.Problem{Succ: chain(2), Gen: chain(3)}, api.Range},
		{flow.Problem{Succ: chain(2), Kill: chain(3)}, api.Range},
		{flow.Problem{Gen: chain(1)}, api.Range},
		{flow.Problem{Kill: chain(1)}, api.Range},
	} {
		if e := flow.Check(c.p); e != c.want {
			t.Errorf("%d nodes, %d: %v, want %v", len(c.p.Succ), c.p.Width, e, c.want)
		}
		for _, f := range []call{flow.Forward, flow.Backward} {
			if a, e := f(c.p); e != c.want || (a != nil) != (c.want == api.OK) {
				t.Errorf("%d nodes, %d: %v %v, want %v", len(c.p.Succ), c.p.Width, a, e, c.want)
			}
		}
	}
	if flow.Width != 4000 {
		t.Error(flow.Width)
	}
}

// P15.1: of nil, of an answer of nothing, of nodes and facts that aren't there.
func TestNone(t *testing.T) {
	p := flow.Problem{Succ: [][]int{{0}, {1}}, Width: 3, Gen: [][]int{{0, 1, 2}, {0, 1, 2}}, Entry: []int{0, 1, 2}}
	for _, a := range []*flow.Answer{nil, {}, settled(t, flow.Forward, p), settled(t, flow.Backward, p), settled(t, flow.Forward, flow.Problem{}), settled(t, flow.Backward, flow.Problem{Width: 4000})} {
		for _, i := range []int{-1, 2, 63, 64, math.MaxInt, math.MinInt} {
			if a.Has(i, 0) || a.List(i) != nil {
				t.Error(i, a.List(i))
			}
		}
		for _, e := range []int{-1, 3, math.MaxInt, math.MinInt} {
			if a.Has(0, e) || a.Has(1, e) {
				t.Error(e)
			}
		}
	}
	if a := settled(t, flow.Forward, flow.Problem{Width: 1, Entry: []int{0}}); a.Has(0, 0) || a.List(0) != nil {
		t.Error("there is no node 0")
	}
	if a := settled(t, flow.Backward, flow.Problem{Succ: [][]int{{0}}}); a.Has(0, 0) || a.List(0) != nil {
		t.Error("there are no facts")
	}
}

// one: is a number in the list that a node has, if there is one?
func one(l [][]int, i, e int) bool { return i < len(l) && slices.Contains(l[i], e) }

// ways: the nodes to which there is a way from a node, of one step at least, on which none between ends fact e.
func ways(p flow.Problem, from, e int) map[int]int {
	found := map[int]int{}
	var walk func(i int)
	walk = func(i int) {
		for _, to := range p.Succ[i] {
			if found[to] == 1 {
				continue
			}
			found[to] = 1
			if !one(p.Kill, to, e) {
				walk(to)
			}
		}
	}
	walk(from)
	return found
}

// ahead: is a fact ahead of a node, forward, as P15.2 says it?
func ahead(p flow.Problem, i, e int) bool {
	for from := range len(p.Succ) {
		if one(p.Gen, from, e) && ways(p, from, e)[i] == 1 {
			return true
		}
	}
	if !slices.Contains(p.Entry, e) {
		return false
	}
	return i == 0 || !one(p.Kill, 0, e) && ways(p, 0, e)[i] == 1
}

// comes: is a fact ahead of a node, backward, as P15.2 says it?
func comes(p flow.Problem, i, e int) bool {
	if one(p.Gen, i, e) {
		return true
	}
	if one(p.Kill, i, e) {
		return false
	}
	for to := range ways(p, i, e) {
		if one(p.Gen, to, e) {
			return true
		}
	}
	return false
}

// numbers: up to most numbers below n.
func numbers(r *rand.Rand, n, most int) []int {
	var l []int
	for range r.Intn(most + 1) {
		l = append(l, r.Intn(n))
	}
	return l
}

// lists: up to n lists, each of up to most numbers below width.
func lists(r *rand.Rand, n, width, most int) [][]int {
	var l [][]int
	for range r.Intn(n + 1) {
		l = append(l, numbers(r, width, most))
	}
	return l
}

func problem(r *rand.Rand, nodes, width int) flow.Problem {
	p := flow.Problem{Width: width, Gen: lists(r, nodes, width, 1), Kill: lists(r, nodes, width, 2), Entry: numbers(r, width, 2)}
	for range nodes {
		p.Succ = append(p.Succ, numbers(r, nodes, 3))
	}
	return p
}

// P15.2: facts are where there is a way for them, and nowhere else.
func TestByWays(t *testing.T) {
	r := rand.New(rand.NewSource(15))
	for range 3000 {
		nodes, width := r.Intn(9)+1, r.Intn(4)+1
		if r.Intn(100) == 0 {
			nodes, width = r.Intn(40)+50, r.Intn(30)+50
		}
		p := problem(r, nodes, width)
		a, b := settled(t, flow.Forward, p), settled(t, flow.Backward, p)
		for i := range nodes {
			for e := range width {
				if a.Has(i, e) != ahead(p, i, e) {
					t.Fatalf("forward, %+v: at %d, %d: %v", p, i, e, a.Has(i, e))
				}
				if b.Has(i, e) != comes(p, i, e) {
					t.Fatalf("backward, %+v: at %d, %d: %v", p, i, e, b.Has(i, e))
				}
			}
		}
	}
}

// P15.1: List tells just what Has tells, rising.
func TestList(t *testing.T) {
	r := rand.New(rand.NewSource(16))
	for range 200 {
		p := problem(r, r.Intn(100)+1, r.Intn(200)+1)
		for _, f := range []call{flow.Forward, flow.Backward} {
			a := settled(t, f, p)
			for i := range len(p.Succ) {
				var l []int
				for e := range p.Width {
					if a.Has(i, e) {
						l = append(l, e)
					}
				}
				if !slices.Equal(a.List(i), l) {
					t.Fatal(i, l, a.List(i))
				}
			}
		}
	}
}

// P1: what is handed in stays as it is, and isn't kept; each list that is answered is a new one.
func TestNewMemory(t *testing.T) {
	make1 := func() flow.Problem {
		return flow.Problem{Succ: [][]int{{1}, {0, 1}}, Width: 3, Gen: [][]int{{0}}, Kill: [][]int{{1}}, Entry: []int{1, 2}}
	}
	for _, f := range []call{flow.Forward, flow.Backward} {
		p := make1()
		a := settled(t, f, p)
		if !reflect.DeepEqual(p, make1()) {
			t.Errorf("%+v", p)
		}
		first := [][]int{a.List(0), a.List(1)}
		p.Succ[0][0], p.Succ[1], p.Gen[0][0], p.Kill[0][0], p.Entry[0] = 0, nil, 2, 0, 0
		for i, l := range first {
			if got := a.List(i); !slices.Equal(got, l) {
				t.Error(i, got, l)
			}
			for k := range l {
				l[k] = 77
			}
			_ = append(l, 78)
		}
		has(t, make1(), a, settled(t, f, make1()).List(0), settled(t, f, make1()).List(1))
	}
}

// P15.1: a problem as great as may be: a long way, and each node going on to each.
func TestGreat(t *testing.T) {
	const n = 1201
	p := flow.Problem{Width: flow.Width, Succ: make([][]int, n), Gen: make([][]int, n), Entry: []int{flow.Width - 1}}
	for i := range n {
		// The way goes down from the last node, so that a fact comes to node 0 by as many steps as may be.
		p.Succ[i] = []int{max(i-1, 0)}
		p.Gen[i] = []int{i}
	}
	a, b := settled(t, flow.Forward, p), settled(t, flow.Backward, p)
	if l := a.List(0); len(l) != n+1 || l[0] != 0 || l[n] != flow.Width-1 {
		t.Error(len(l))
	}
	if l := a.List(n - 2); !slices.Equal(l, []int{n - 1}) {
		t.Error(l)
	}
	if l := b.List(n - 1); len(l) != n {
		t.Error(len(l))
	}
	for i := range n {
		p.Succ[i] = nil
		for to := range n {
			p.Succ[i] = append(p.Succ[i], to)
		}
		for e := range flow.Width {
			if e%n == i {
				p.Gen[i] = append(p.Gen[i], e)
			}
		}
	}
	for _, f := range []call{flow.Forward, flow.Backward} {
		a := settled(t, f, p)
		for _, i := range []int{0, n / 2, n - 1} {
			if l := a.List(i); len(l) != flow.Width {
				t.Error(i, len(l))
			}
		}
	}
}
