package solve_test

import (
	"math"
	"math/rand"
	"slices"
	"testing"

	"chattel/api"
	"chattel/solve"
)

func solver(t *testing.T, n, width int) *solve.Solver {
	t.Helper()
	s, e := solve.New(n, width)
	if s == nil || e != api.OK {
		t.Fatal(n, width, e)
	}
	return s
}

func put(t *testing.T, s *solve.Solver, r, e int) {
	t.Helper()
	if got := s.Put(r, e); got != api.OK {
		t.Fatal(r, e, got)
	}
}

func outlives(t *testing.T, s *solve.Solver, a, b int) {
	t.Helper()
	if got := s.Outlives(a, b); got != api.OK {
		t.Fatal(a, b, got)
	}
}

// has: all calls tell that just these are in a region.
func has(t *testing.T, s *solve.Solver, width, r int, want ...int) {
	t.Helper()
	if got := s.List(r); !slices.Equal(got, want) {
		t.Errorf("%d: %v, want %v", r, got, want)
	}
	if s.Count(r) != len(want) {
		t.Errorf("%d: %d, want %d", r, s.Count(r), len(want))
	}
	for e := range width {
		if s.Has(r, e) != slices.Contains(want, e) {
			t.Errorf("%d, %d: %v", r, e, s.Has(r, e))
		}
	}
}

// P12.1: how many regions and elements there may be.
func TestNew(t *testing.T) {
	if solve.Width != 2700 {
		t.Error(solve.Width)
	}
	for _, p := range [][2]int{{0, 0}, {0, 2700}, {1, 0}, {1, 1}, {64, 64}, {65, 65}, {1500, 5}, {1501, 0}, {1501, 2700}, {1, 2699}} {
		s := solver(t, p[0], p[1])
		for _, r := range []int{0, p[0] - 1, p[0]} {
			has(t, s, p[1], r)
		}
	}
	for _, p := range [][2]int{{-1, 5}, {1502, 5}, {5, -1}, {5, 2701}, {-1, -1}, {1502, 2701}, {math.MaxInt, 5}, {math.MinInt, 5}, {5, math.MaxInt}, {5, math.MinInt}} {
		if s, e := solve.New(p[0], p[1]); s != nil || e != api.Range {
			t.Error(p, s, e)
		}
	}
}

// P12.1, P12.2: the chapter's example.
func TestExample(t *testing.T) {
	s := solver(t, 3, 8)
	outlives(t, s, 0, 1)
	outlives(t, s, 1, 2)
	put(t, s, 2, 7)
	for r := range 3 {
		has(t, s, 8, r, 7)
	}
}

// P12.2: what is in a region is in those alone that outlive it.
func TestLeast(t *testing.T) {
	s := solver(t, 5, 9)
	put(t, s, 1, 4)
	put(t, s, 0, 8)
	outlives(t, s, 0, 1)
	has(t, s, 9, 0, 4, 8)
	has(t, s, 9, 1, 4)
	put(t, s, 1, 0)
	put(t, s, 1, 0)
	has(t, s, 9, 0, 0, 4, 8)
	has(t, s, 9, 1, 0, 4)
	outlives(t, s, 3, 0)
	has(t, s, 9, 3, 0, 4, 8)
	put(t, s, 3, 2)
	has(t, s, 9, 3, 0, 2, 4, 8)
	has(t, s, 9, 0, 0, 4, 8)
	outlives(t, s, 1, 3) // a round: all three are the same
	for _, r := range []int{0, 1, 3} {
		has(t, s, 9, r, 0, 2, 4, 8)
	}
	has(t, s, 9, 2)
	has(t, s, 9, 4)
	outlives(t, s, 4, 4)
	outlives(t, s, 2, 4)
	put(t, s, 4, 1)
	has(t, s, 9, 2, 1)
	has(t, s, 9, 4, 1)
	outlives(t, s, 0, 1)
	has(t, s, 9, 0, 0, 2, 4, 8)
}

// P12.1: what there isn't can't be told of, and nothing comes of it.
func TestRange(t *testing.T) {
	s := solver(t, 3, 5)
	outlives(t, s, 0, 1)
	put(t, s, 1, 4)
	for _, n := range []int{-1, 3, 4, 5, 63, 64, 65, 1501, math.MaxInt, math.MinInt} {
		for what, e := range []api.Errno{s.Put(n, 0), s.Put(n, 9), s.Outlives(n, 1), s.Outlives(1, n), s.Outlives(n, n)} {
			if e != api.Range {
				t.Error(n, what, e)
			}
		}
		if s.Has(n, 4) || s.List(n) != nil || s.Count(n) != 0 {
			t.Error(n, s.List(n))
		}
	}
	for _, n := range []int{-1, 5, 6, 63, 64, 2700, math.MaxInt, math.MinInt} {
		if e := s.Put(0, n); e != api.Range || s.Has(0, n) || s.Has(1, n) {
			t.Error(n, e)
		}
	}
	has(t, s, 5, 0, 4)
	has(t, s, 5, 1, 4)
	has(t, s, 5, 2)
	none := solver(t, 3, 0)
	if none.Put(0, 0) != api.Range || none.Outlives(0, 2) != api.OK || none.Has(0, 0) || none.Count(0) != 0 {
		t.Error("no elements")
	}
	if none = solver(t, 0, 5); none.Put(0, 0) != api.Range || none.Outlives(0, 0) != api.Range || none.Has(0, 0) || none.Count(0) != 0 {
		t.Error("no regions")
	}
}

// P12.1: a nil solver has no regions; so has one that New didn't make.
func TestNil(t *testing.T) {
	for _, s := range []*solve.Solver{nil, {}} {
		if s.Put(0, 0) != api.Range || s.Outlives(0, 0) != api.Range || s.Has(0, 0) || s.List(0) != nil || s.Count(0) != 0 {
			t.Error(s)
		}
		if s.Put(-1, -1) != api.Range || s.Outlives(-1, -1) != api.Range || s.Has(-1, -1) || s.List(-1) != nil || s.Count(-1) != 0 {
			t.Error(s)
		}
	}
}

// P12.1 (rule 4): a list is new memory, and solvers are by themselves.
func TestNewMemory(t *testing.T) {
	s, other := solver(t, 2, 9), solver(t, 2, 9)
	put(t, s, 0, 3)
	put(t, s, 0, 5)
	l := s.List(0)
	l[0], l[1] = 8, 8
	has(t, s, 9, 0, 3, 5)
	_ = append(s.List(0), 1)
	put(t, s, 0, 7)
	has(t, s, 9, 0, 3, 5, 7)
	has(t, s, 9, 1)
	has(t, other, 9, 0)
	if l[0] != 8 || l[1] != 8 {
		t.Error(l)
	}
}

// told is something that a solver is told: a outlives b, or b is in a.
type told struct {
	pair bool
	a, b int
}

func tell(t *testing.T, s *solve.Solver, l []told) {
	t.Helper()
	for _, x := range l {
		if x.pair {
			outlives(t, s, x.a, x.b)
		} else {
			put(t, s, x.a, x.b)
		}
	}
}

// byWords: what must be in each region, by any number of steps: steps are gone till nothing new comes of it.
func byWords(n int, l []told) []map[int]bool {
	in := make([]map[int]bool, n)
	for r := range in {
		in[r] = map[int]bool{}
	}
	for grown := true; grown; {
		grown = false
		add := func(r, e int) {
			grown = grown || !in[r][e]
			in[r][e] = true
		}
		for _, x := range l {
			if !x.pair {
				add(x.a, x.b)
				continue
			}
			for e := range in[x.b] {
				add(x.a, e)
			}
		}
	}
	return in
}

// P12.2: over many tellings, in whatever order, and after each of them, just what must be in a region is in it.
func TestRandom(t *testing.T) {
	for seed := range int64(3000) {
		m := rand.New(rand.NewSource(seed))
		n, width := 1+m.Intn(12), 1+m.Intn(9)
		if m.Intn(10) == 0 {
			n += 120
		}
		var l []told
		for range m.Intn(3 * n) {
			if m.Intn(3) == 0 {
				l = append(l, told{false, m.Intn(n), m.Intn(width)})
			} else {
				l = append(l, told{true, m.Intn(n), m.Intn(n)})
			}
		}
		for range 3 {
			m.Shuffle(len(l), func(i, j int) { l[i], l[j] = l[j], l[i] })
			s := solver(t, n, width)
			half := m.Intn(len(l) + 1)
			tell(t, s, l[:half])
			holds(t, s, width, byWords(n, l[:half]))
			tell(t, s, l[half:])
			holds(t, s, width, byWords(n, l))
		}
		if t.Failed() {
			t.Fatal(seed, l)
		}
	}
}

func holds(t *testing.T, s *solve.Solver, width int, in []map[int]bool) {
	t.Helper()
	for r := range in {
		var want []int
		for e := range width {
			if in[r][e] {
				want = append(want, e)
			}
		}
		has(t, s, width, r, want...)
	}
}

// full tells a solver of as many regions and elements as may be: a row of regions in which each outlives the next, and elements in the last one; the row is told ahead of these, or behind.
func full(t *testing.T, ahead bool) *solve.Solver {
	t.Helper()
	const n = api.MaxRegions + 1
	s := solver(t, n, solve.Width)
	row := func() {
		for r := range n - 1 {
			outlives(t, s, r, r+1)
		}
	}
	if ahead {
		row()
	}
	for e := range solve.Width {
		put(t, s, n-1, e)
	}
	if !ahead {
		row()
	}
	return s
}

// P12.1, P12.2: as many regions, elements and steps as may be.
func TestFull(t *testing.T) {
	for _, ahead := range []bool{true, false} {
		s := full(t, ahead)
		for r := range api.MaxRegions + 1 {
			if s.Count(r) != solve.Width || !s.Has(r, 0) || !s.Has(r, solve.Width-1) {
				t.Fatal(ahead, r, s.Count(r))
			}
		}
	}
}

// P12.2: all regions outlive each other, told many times.
func TestAll(t *testing.T) {
	const n = 300
	s := solver(t, n, 100)
	for range 3 {
		for a := range n {
			put(t, s, a, a%100)
			for b := range n {
				outlives(t, s, a, b)
			}
		}
	}
	for r := range n {
		if s.Count(r) != 100 {
			t.Fatal(r, s.Count(r))
		}
	}
}
