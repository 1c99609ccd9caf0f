package high_test

import (
	"math/rand"
	"slices"
	"testing"

	"chattel/high"
	"chattel/sub"
	"chattel/types"
	"chattel/vary"
)

// maker makes worlds and schemes at random, over structs S and R.
type maker struct{ *rand.Rand }

func (m maker) region(last int) int { return m.Intn(last + 1) }

// pairs: no more than n pairs of regions from 0 to last.
func (m maker) pairs(n, last int) (l pairs) {
	for range m.Intn(n + 1) {
		l = append(l, [2]int{m.region(last), m.region(last)})
	}
	return l
}

func (m maker) typ(deep, last int) T {
	n := m.Intn(8)
	if deep == 0 {
		n %= 4
	}
	switch n {
	case 0:
		return integer
	case 1:
		return dyn(m.region(last))
	case 2:
		return param(m.region(last))
	case 3:
		return str([]string{"S", "R"}[m.Intn(2)], []int{m.region(last), m.region(last)})
	case 4:
		return str([]string{"S", "R"}[m.Intn(2)], []int{m.region(last)}, m.typ(deep-1, last))
	case 5:
		return box(m.typ(deep-1, last))
	case 6:
		return ref(m.region(last), m.typ(deep-1, last))
	}
	return mut(m.region(last), m.typ(deep-1, last))
}

func (m maker) world(free, own int) World {
	w := World{Free: free, Known: m.pairs(2, free+own), Ways: vary.Ways{}, Needs: types.Needs{}}
	for _, s := range []string{"S", "R"} {
		w.Ways[s] = []int{m.Intn(4), m.Intn(4)}
		w.Needs[s] = m.pairs(1, 2)
	}
	return w
}

func (m maker) scheme(free, own int) Scheme {
	last := free + own
	s := Scheme{Bound: own, Outs: m.pairs(2, last), Ret: m.typ(2, last)}
	for range m.Intn(3) {
		s.Params = append(s.Params, m.typ(2, last))
	}
	return s
}

// like: a scheme with the same types, but for regions.
func (m maker) like(s Scheme, free, own int) Scheme {
	other := func(int) int { return m.region(free + own) }
	l := Scheme{Bound: own, Outs: m.pairs(2, free+own), Ret: types.Map(s.Ret, other)}
	for _, p := range s.Params {
		l.Params = append(l.Params, types.Map(p, other))
	}
	return l
}

// says: what a scheme says, from the words of the chapter.
func says(s Scheme, needs types.Needs) pairs {
	l := slices.Clone(s.Outs)
	for _, p := range append(slices.Clone(s.Params), s.Ret) {
		l = append(l, types.Wf(p, needs)...)
	}
	return l
}

// asked: all that is asked, and whether the types do at all; a's own lifetimes stand behind b's.
func asked(w World, a, b Scheme) (l pairs, ok bool) {
	if len(a.Params) != len(b.Params) {
		return nil, false
	}
	move := func(r int) int {
		if r > w.Free {
			return r + b.Bound
		}
		return r
	}
	for _, p := range says(a, w.Needs) {
		l = append(l, [2]int{move(p[0]), move(p[1])})
	}
	from, to := append(slices.Clone(b.Params), types.Map(a.Ret, move)), []T{}
	for _, p := range a.Params {
		to = append(to, types.Map(p, move))
	}
	to = append(to, b.Ret)
	for i := range from {
		more, ok := sub.Pairs(w.Ways, from[i], to[i])
		if !ok {
			return nil, false
		}
		l = append(l, more...)
	}
	return l, true
}

// holds: with regions that have an element (a bit each) or haven't, is all so? 'static, which is all, has bit 0.
func holds(l pairs, has int) bool {
	return !slices.ContainsFunc(l, func(p [2]int) bool { return has>>p[0]&1 == 0 && has>>p[1]&1 == 1 })
}

// bySets: are there for whatever sets as is known some for a's own such that all is so that is asked? What is so of sets is so of each element by itself: so all sets of one element, or none, are looked at.
func bySets(w World, a, b Scheme) bool {
	l, ok := asked(w, a, b)
	known := append(says(b, w.Needs), w.Known...)
	others := w.Free + b.Bound
	for has := range 1 << others {
		has = has<<1 | 1
		if !ok || holds(known, has) && !some(l, has, others+1, a.Bound) {
			return false
		}
	}
	return true
}

// some: are there some for a's own, from a region on, such that all is so?
func some(l pairs, has, first, own int) bool {
	for mine := range 1 << own {
		if holds(l, has|mine<<first) {
			return true
		}
	}
	return false
}

// P11.1, P11.2, P11.3: over many schemes yes is said just where all sets of b's have some of a's.
func TestSets(t *testing.T) {
	said := [2]int{}
	for seed := range int64(60000) {
		m := maker{rand.New(rand.NewSource(seed))}
		free, own, bound := m.Intn(3), m.Intn(4), m.Intn(4)
		w, a := m.world(free, bound), m.scheme(free, own)
		b := m.like(a, free, bound)
		if m.Intn(20) == 0 {
			b = m.scheme(free, bound)
		}
		got := high.Test(w, a, b)
		if got != bySets(w, a, b) {
			t.Fatalf("%d: %v of\n%v\n%v\n%v", seed, got, w, a, b)
		}
		if got {
			said[1]++
		} else {
			said[0]++
		}
	}
	if min(said[0], said[1]) < 5000 {
		t.Error(said)
	}
}

// P11.1: each does for itself, and what does for one that does for a third does for that.
func TestOrder(t *testing.T) {
	done := 0
	for seed := range int64(60000) {
		m := maker{rand.New(rand.NewSource(seed))}
		free := m.Intn(4)
		w, a := m.world(free, 0), m.scheme(free, m.Intn(4))
		b, c := m.like(a, free, m.Intn(4)), m.like(a, free, m.Intn(4))
		if !high.Test(w, a, a) {
			t.Fatalf("%d: %v\n%v", seed, w, a)
		}
		if high.Test(w, a, b) && high.Test(w, b, c) {
			done++
			if !high.Test(w, a, c) {
				t.Fatalf("%d: %v\n%v\n%v\n%v", seed, w, a, b, c)
			}
		}
	}
	if done < 1000 {
		t.Error(done)
	}
}

// P11.1: which numbers lifetimes of its own have is one.
func TestNumbers(t *testing.T) {
	for seed := range int64(20000) {
		m := maker{rand.New(rand.NewSource(seed))}
		free, own, bound := m.Intn(3), m.Intn(5), m.Intn(4)
		w, a := m.world(free, bound), m.scheme(free, own)
		b := m.like(a, free, bound)
		order := m.Perm(own)
		other := func(r int) int {
			if r > free {
				return free + 1 + order[r-free-1]
			}
			return r
		}
		c := Scheme{Bound: own, Ret: types.Map(a.Ret, other)}
		for _, p := range a.Params {
			c.Params = append(c.Params, types.Map(p, other))
		}
		for _, p := range a.Outs {
			c.Outs = append(c.Outs, [2]int{other(p[0]), other(p[1])})
		}
		w.Known = nil // what it knows of b's own is of these numbers
		if high.Test(w, a, b) != high.Test(w, c, b) || high.Test(w, b, a) != high.Test(w, b, c) {
			t.Fatalf("%d: %v\n%v\n%v\n%v", seed, w, a, b, order)
		}
	}
}
