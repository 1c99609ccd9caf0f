package sets_test

import (
	"math/rand"
	"slices"
	"testing"

	"chattel/sets"
)

// numbers: which numbers below n are in a set.
func numbers(s sets.Set, n int) []int {
	var l []int
	for i := range n {
		if s.Has(i) {
			l = append(l, i)
		}
	}
	return l
}

// made: a set of these numbers.
func made(n int, l []int) sets.Set {
	s := sets.New(n)
	for _, x := range l {
		s.Add(x)
	}
	return s
}

// Each number is in a set or not for itself, at the edges of words, too.
func TestAdd(t *testing.T) {
	for _, n := range []int{1, 63, 64, 65, 128, 129, 1201} {
		for _, x := range []int{0, n / 2, n - 1} {
			if l := numbers(made(n, []int{x, x}), n); !slices.Equal(l, []int{x}) {
				t.Error(n, x, l)
			}
		}
	}
	for _, s := range sets.Several(3, 100) {
		if l := numbers(s, 100); l != nil {
			t.Error(l)
		}
		s.Add(99)
	}
	if len(sets.Several(0, 5)) != 0 || len(sets.New(0)) != 0 {
		t.Error("none")
	}
}

// What is told of two sets is told of each number in them.
func TestTwo(t *testing.T) {
	r := rand.New(rand.NewSource(1))
	for range 2000 {
		n := r.Intn(200) + 1
		var a, b []int
		for range r.Intn(40) {
			a, b = append(a, r.Intn(n)), append(b, r.Intn(n))
		}
		one, two := numbers(made(n, a), n), numbers(made(n, b), n)
		var both, fresh, rest []int
		for i := range n {
			inOne, inTwo := slices.Contains(one, i), slices.Contains(two, i)
			if inOne || inTwo {
				both = append(both, i)
			}
			if !inOne && inTwo {
				fresh = append(fresh, i)
			}
			if inOne && !inTwo {
				rest = append(rest, i)
			}
		}
		s, u := made(n, a), made(n, b)
		s.AddAll(u)
		if l := numbers(s, n); !slices.Equal(l, both) {
			t.Fatal(one, two, l)
		}
		s = made(n, a)
		if l := s.AddNew(u, []int{-7}); !slices.Equal(l, append([]int{-7}, fresh...)) || !slices.Equal(numbers(s, n), both) {
			t.Fatal(one, two, l, numbers(s, n))
		}
		s = made(n, a)
		s.Remove(u)
		if l := numbers(s, n); !slices.Equal(l, rest) || !slices.Equal(numbers(u, n), two) {
			t.Fatal(one, two, l)
		}
	}
}
