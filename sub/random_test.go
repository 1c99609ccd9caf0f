package sub_test

import (
	"math/rand"
	"slices"
	"testing"

	"chattel/sub"
	"chattel/types"
	"chattel/vary"
)

// regions is from how many numbers regions are taken at random.
const regions = 6

// maker makes types at random, over structs that change in ways made at random.
type maker struct {
	*rand.Rand
	ways vary.Ways
}

func newMaker(seed int64) maker {
	m := maker{rand.New(rand.NewSource(seed)), vary.Ways{}}
	for _, name := range []string{"A", "B"} {
		for range m.Intn(5) {
			m.ways[name] = append(m.ways[name], m.Intn(4))
		}
	}
	return m
}

func (m maker) typ(deep int) T {
	n := m.Intn(8)
	if deep == 0 {
		n %= 3
	}
	switch n {
	case 0:
		return integer
	case 1:
		return dyn(m.Intn(regions))
	case 2:
		return param(m.Intn(regions))
	case 3:
		return box(m.typ(deep - 1))
	case 4:
		return ref(m.Intn(regions), m.typ(deep-1))
	case 5:
		return mut(m.Intn(regions), m.typ(deep-1))
	}
	x := str([]string{"A", "B", "C"}[m.Intn(3)], nil)
	for range m.Intn(3) {
		x.Regions = append(x.Regions, m.Intn(regions))
	}
	for range m.Intn(3) {
		x.Args = append(x.Args, m.typ(deep-1))
	}
	return x
}

// other: the same type, with regions of its own.
func (m maker) other(x T) T {
	return types.Map(x, func(int) int { return m.Intn(regions) })
}

// spots: the way of each of layer 7's All of a type, worked out from the words of the chapter for one type by itself; -1: it says nothing.
func spots(x T, way int, w vary.Ways) []int {
	slot := func(i int) int {
		if i >= len(w[x.Name]) {
			return vary.Through(way, vary.Inv)
		}
		return vary.Through(way, w[x.Name][i])
	}
	var l []int
	inner := func(int) int { return way }
	switch x.Kind {
	case types.Ref:
		l = append(l, way)
		if x.Mut {
			inner = func(int) int { return vary.Through(way, vary.Inv) }
		}
	case types.Dyn:
		l = append(l, way)
	case types.Param:
		l = append(l, -1)
	case types.Struct:
		for i := range x.Regions {
			l = append(l, slot(i))
		}
		inner = func(i int) int { return slot(len(x.Regions) + i) }
	}
	for i, a := range x.Args {
		l = append(l, spots(a, inner(i), w)...)
	}
	return l
}

func byWords(w vary.Ways, a, b T, way int) [][2]int {
	var l [][2]int
	as, bs := types.All(a), types.All(b)
	for i, at := range spots(a, way, w) {
		along, against := [2]int{as[i], bs[i]}, [2]int{bs[i], as[i]}
		switch at {
		case 1:
			l = append(l, along)
		case 2:
			l = append(l, against)
		case 3:
			l = append(l, along, against)
		}
	}
	return l
}

// P10.1: over many types pairs are what the words of the chapter say.
func TestRandom(t *testing.T) {
	for seed := range int64(20000) {
		m := newMaker(seed)
		a := m.typ(4)
		b := m.other(a)
		if got, ok := sub.Pairs(m.ways, a, b); !ok || !slices.Equal(got, byWords(m.ways, a, b, vary.Co)) {
			t.Fatalf("%d: %s for %s: %v", seed, types.Text(a), types.Text(b), got)
		}
		if got, ok := sub.Both(m.ways, a, b); !ok || !slices.Equal(got, byWords(m.ways, a, b, vary.Inv)) {
			t.Fatalf("%d: %s and %s: %v", seed, types.Text(a), types.Text(b), got)
		}
		if c := m.typ(4); !types.Same(a, c) {
			never(t, a, c)
		}
	}
}

// relation: which regions outlive which, closed.
type relation [regions][regions]bool

func closed(l ...[2]int) *relation {
	r := &relation{}
	for i := range regions {
		r[0][i], r[i][i] = true, true
	}
	for _, p := range l {
		r[p[0]][p[1]] = true
	}
	for k := range regions {
		for i := range regions {
			for j := range regions {
				r[i][j] = r[i][j] || r[i][k] && r[k][j]
			}
		}
	}
	return r
}

func (r *relation) has(l [][2]int) bool {
	return !slices.ContainsFunc(l, func(p [2]int) bool { return !r[p[0]][p[1]] })
}

func pairs(t *testing.T, m maker, a, b T) [][2]int {
	t.Helper()
	l, ok := sub.Pairs(m.ways, a, b)
	if !ok {
		t.Fatalf("%s for %s", types.Text(a), types.Text(b))
	}
	return l
}

// P10.2: each type does for itself, and what does for one that does for a third does for that.
func TestOrder(t *testing.T) {
	for seed := range int64(20000) {
		m := newMaker(seed)
		a := m.typ(4)
		b, c := m.other(a), m.other(a)
		if !closed().has(pairs(t, m, a, a)) {
			t.Fatalf("%d: %s", seed, types.Text(a))
		}
		asked := append(pairs(t, m, a, b), pairs(t, m, b, c)...)
		if !closed(asked...).has(pairs(t, m, a, c)) {
			t.Fatalf("%d: %s for %s for %s", seed, types.Text(a), types.Text(b), types.Text(c))
		}
	}
}

// P10.2: each does for the other just where Both's pairs are so.
func TestEach(t *testing.T) {
	for seed := range int64(20000) {
		m := newMaker(seed)
		a := m.typ(4)
		b := m.other(a)
		each := append(pairs(t, m, a, b), pairs(t, m, b, a)...)
		l, _ := sub.Both(m.ways, a, b)
		if *closed(each...) != *closed(l...) {
			t.Fatalf("%d: %s and %s: %v, %v", seed, types.Text(a), types.Text(b), each, l)
		}
	}
}

// P10.2: a type does for one that is the same but for a greater region where it stands Co, a lesser one where it stands Contra, and for no other.
func TestOneRegion(t *testing.T) {
	for seed := range int64(5000) {
		m := newMaker(seed)
		a := types.Map(m.typ(3), func(int) int { return 1 })
		for i, at := range spots(a, vary.Co, m.ways) {
			n := -1
			b := types.Map(a, func(int) int {
				if n++; n == i {
					return 2
				}
				return 1
			})
			up, down := closed([2]int{1, 2}).has(pairs(t, m, a, b)), closed([2]int{2, 1}).has(pairs(t, m, a, b))
			if up != (at <= 1) || down != (at <= 0 || at == 2) {
				t.Fatalf("%d: %s for %s: %v %v", seed, types.Text(a), types.Text(b), up, down)
			}
		}
	}
}
