package life_test

import (
	"math"
	"math/rand"
	"reflect"
	"slices"
	"testing"

	"chattel/api"
	"chattel/life"
)

func rel(t *testing.T, n int, pairs ...[2]int) *life.Rel {
	t.Helper()
	r, e := life.New(n)
	if r == nil || e != api.OK || r.Len() != n {
		t.Fatal(n, r, e)
	}
	add(t, r, pairs...)
	return r
}

func add(t *testing.T, r *life.Rel, pairs ...[2]int) {
	t.Helper()
	for _, p := range pairs {
		if e := r.Add(p[0], p[1]); e != api.OK {
			t.Fatal(p, e)
		}
	}
}

// P6.1: New, of every number that may be, and of those that may not.
func TestNew(t *testing.T) {
	if life.Max != 300 {
		t.Error(life.Max)
	}
	for n := range life.Max + 1 {
		rel(t, n)
	}
	for _, n := range []int{-1, life.Max + 1, life.Max + 2, 1 << 40, math.MaxInt, math.MinInt} {
		if r, e := life.New(n); r != nil || e != api.Range {
			t.Error(n, r, e)
		}
	}
}

// P6.1: of a relation that was told nothing each outlives itself, and 'static all.
func TestNothingTold(t *testing.T) {
	for _, n := range []int{0, 1, 5, life.Max} {
		r := rel(t, n)
		for a := range n + 1 {
			for b := range n + 1 {
				if r.Has(a, b) != (a == 0 || a == b) {
					t.Fatal(n, a, b)
				}
			}
			if a > 0 && !slices.Equal(r.Under(a), []int{a}) {
				t.Fatal(n, a, r.Under(a))
			}
		}
		if l := r.Under(0); len(l) != n+1 || !slices.IsSorted(l) || l[0] != 0 || l[n] != n {
			t.Error(n, l)
		}
		if l := r.Pairs(); len(l) != 0 {
			t.Error(n, l)
		}
	}
}

// P6.1: the chapter's example, and all that is told of it.
func TestChain(t *testing.T) {
	r := rel(t, 3, [2]int{1, 2}, [2]int{2, 3})
	if !r.Has(1, 3) || r.Has(3, 1) || r.Has(1, 0) {
		t.Error("has")
	}
	under := [][]int{{0, 1, 2, 3}, {1, 2, 3}, {2, 3}, {3}}
	for a, want := range under {
		if got := r.Under(a); !slices.Equal(got, want) {
			t.Error(a, got)
		}
	}
	if l := r.Pairs(); !slices.Equal(l, [][2]int{{1, 2}, {1, 3}, {2, 3}}) {
		t.Error(l)
	}
}

// P6.1: what was added first is closed with what comes behind it, in whatever order.
func TestOrders(t *testing.T) {
	pairs := [][2]int{{4, 2}, {2, 3}, {3, 1}, {1, 5}}
	want := rel(t, 5, pairs...).Pairs()
	if len(want) != 10 || want[0] != [2]int{1, 5} || want[9] != [2]int{4, 5} {
		t.Fatal(want)
	}
	random := rand.New(rand.NewSource(5))
	for range 50 {
		random.Shuffle(len(pairs), func(i, j int) { pairs[i], pairs[j] = pairs[j], pairs[i] })
		if got := rel(t, 5, pairs...).Pairs(); !slices.Equal(got, want) {
			t.Fatal(pairs, got)
		}
	}
}

// P6.1: what outlives 'static outlives all, and so does what outlives that; pairs with 'static second are told.
func TestStatic(t *testing.T) {
	r := rel(t, 3, [2]int{2, 0}, [2]int{3, 2})
	want := [][2]int{{2, 0}, {2, 1}, {2, 3}, {3, 0}, {3, 1}, {3, 2}}
	if got := r.Pairs(); !slices.Equal(got, want) {
		t.Error(got)
	}
	add(t, r, [2]int{0, 1}, [2]int{0, 0}, [2]int{1, 1})
	if got := r.Pairs(); !slices.Equal(got, want) {
		t.Error(got)
	}
	if got := rel(t, 0, [2]int{0, 0}).Under(0); !slices.Equal(got, []int{0}) {
		t.Error(got)
	}
}

// P6.1: those that outlive each other in a ring.
func TestRing(t *testing.T) {
	r := rel(t, 4, [2]int{1, 2}, [2]int{2, 3}, [2]int{3, 1})
	for a := 1; a <= 3; a++ {
		if !slices.Equal(r.Under(a), []int{1, 2, 3}) {
			t.Error(a, r.Under(a))
		}
	}
	if !slices.Equal(r.Under(4), []int{4}) {
		t.Error(r.Under(4))
	}
}

// P6.1: a number that is no lifetime: Range, and all is as it was.
func TestNoLifetime(t *testing.T) {
	for _, n := range []int{0, 4, life.Max} {
		r := rel(t, n)
		if n == 4 {
			add(t, r, [2]int{1, 2}, [2]int{4, 3})
		}
		ahead := r.Pairs()
		for _, x := range []int{-1, n + 1, n + 64, math.MaxInt, math.MinInt} {
			if a, b, c := r.Add(x, n), r.Add(n, x), r.Add(x, x); a != api.Range || b != api.Range || c != api.Range {
				t.Error(n, x, a, b, c)
			}
			if r.Has(x, 0) || r.Has(0, x) || r.Has(x, x) || len(r.Under(x)) != 0 {
				t.Error(n, x)
			}
		}
		if !reflect.DeepEqual(r.Pairs(), ahead) || r.Len() != n {
			t.Error(n, r.Pairs())
		}
	}
}

// P6.1: a nil Rel, and one that New didn't make.
func TestNil(t *testing.T) {
	for _, r := range []*life.Rel{nil, {}} {
		if r.Len() != 0 || r.Add(0, 0) != api.Range || r.Add(1, 2) != api.Range || r.Has(0, 0) || r.Has(1, 1) {
			t.Error("numbers")
		}
		if len(r.Under(0)) != 0 || len(r.Under(-1)) != 0 || len(r.Pairs()) != 0 {
			t.Error("lists")
		}
		if c := r.Clone(); r == nil && c != nil || c.Len() != 0 {
			t.Error("clone")
		}
	}
}

// P6.1: a clone knows the same, and goes its own way from then on, as what it was made of does.
func TestClone(t *testing.T) {
	r := rel(t, 4, [2]int{1, 2})
	c := r.Clone()
	if c == r || c.Len() != 4 || !slices.Equal(c.Pairs(), r.Pairs()) {
		t.Fatal(c.Pairs())
	}
	add(t, c, [2]int{2, 3})
	add(t, r, [2]int{4, 1})
	if got := c.Pairs(); !slices.Equal(got, [][2]int{{1, 2}, {1, 3}, {2, 3}}) {
		t.Error(got)
	}
	if got := r.Pairs(); !slices.Equal(got, [][2]int{{1, 2}, {4, 1}, {4, 2}}) {
		t.Error(got)
	}
	if c := rel(t, 0).Clone(); c == nil || c.Len() != 0 || !c.Has(0, 0) {
		t.Error(c)
	}
}

// P6.1 (rule 4): an answer is new memory.
func TestNewMemory(t *testing.T) {
	r := rel(t, 3, [2]int{1, 2})
	under, pairs := r.Under(1), r.Pairs()
	under[0], pairs[0] = 3, [2]int{3, 3}
	if !slices.Equal(r.Under(1), []int{1, 2}) || !slices.Equal(r.Pairs(), [][2]int{{1, 2}}) || r.Has(1, 3) {
		t.Error(r.Under(1), r.Pairs())
	}
}

// least is the least closed relation with some pairs, by way of each lifetime between.
func least(n int, pairs [][2]int) [][]bool {
	m := make([][]bool, n+1)
	for a := range m {
		m[a] = make([]bool, n+1)
		for b := range m[a] {
			m[a][b] = a == 0 || a == b
		}
	}
	for _, p := range pairs {
		m[p[0]][p[1]] = true
	}
	for k := range m {
		for a := range m {
			for b := range m {
				m[a][b] = m[a][b] || m[a][k] && m[k][b]
			}
		}
	}
	return m
}

// holds: r knows just what m has.
func holds(t *testing.T, r *life.Rel, m [][]bool) {
	t.Helper()
	var pairs [][2]int
	for a := range m {
		var under []int
		for b := range m {
			if r.Has(a, b) != m[a][b] {
				t.Fatalf("Has(%d, %d) = %v", a, b, r.Has(a, b))
			}
			if !m[a][b] {
				continue
			}
			under = append(under, b)
			if a > 0 && a != b {
				pairs = append(pairs, [2]int{a, b})
			}
		}
		if !slices.Equal(r.Under(a), under) {
			t.Fatal(a, r.Under(a), under)
		}
	}
	if !slices.Equal(r.Pairs(), pairs) {
		t.Fatal(r.Pairs(), pairs)
	}
}

// P6.2: whatever is added, what is known is the least that is closed, behind each step.
func TestLeast(t *testing.T) {
	random := rand.New(rand.NewSource(6))
	for range 300 {
		n := random.Intn(9)
		r := rel(t, n)
		var pairs [][2]int
		for range random.Intn(14) {
			a, b := random.Intn(n+1), random.Intn(n+1)
			if b == 0 && random.Intn(4) > 0 { // else nearly all would outlive 'static soon
				continue
			}
			pairs = append(pairs, [2]int{a, b})
			add(t, r, [2]int{a, b})
			holds(t, r, least(n, pairs))
			holds(t, r.Clone(), least(n, pairs))
		}
	}
}

// P6.2: likewise with as many lifetimes as there may be.
func TestLeastOfMany(t *testing.T) {
	random := rand.New(rand.NewSource(66))
	for _, count := range []int{100, 280, 330, 900} {
		r := rel(t, life.Max)
		var pairs [][2]int
		for range count {
			pairs = append(pairs, [2]int{1 + random.Intn(life.Max), 1 + random.Intn(life.Max)})
		}
		add(t, r, pairs...)
		holds(t, r, least(life.Max, pairs))
	}
	r := rel(t, life.Max)
	for a := life.Max; a > 1; a-- {
		add(t, r, [2]int{a - 1, a})
	}
	if l := r.Pairs(); len(l) != life.Max*(life.Max-1)/2 || !r.Has(1, life.Max) || r.Has(life.Max, 1) {
		t.Error(len(l))
	}
}
