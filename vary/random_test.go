package vary_test

import (
	"math/rand"
	"slices"
	"testing"

	"chattel/types"
	"chattel/vary"
)

// maker makes structs A, B and C at random: each has up to two lifetimes and up to two types.
type maker struct {
	*rand.Rand
	defs []vary.Def
}

func newMaker(seed int64) *maker {
	m := &maker{Rand: rand.New(rand.NewSource(seed))}
	for i := range 1 + m.Intn(3) {
		d := vary.Def{Name: string(rune('A' + i)), Lifes: m.Intn(3), Types: []string{"T", "U"}[:m.Intn(3)]}
		for range m.Intn(3) {
			d.Fields = append(d.Fields, m.typ(3))
		}
		m.defs = append(m.defs, d)
	}
	return m
}

func (m *maker) typ(deep int) T {
	n := m.Intn(8)
	if deep == 0 {
		n %= 3
	}
	switch n {
	case 0:
		return integer
	case 1:
		return dyn(m.Intn(4))
	case 2:
		return param([]string{"T", "U", "V"}[m.Intn(3)])
	case 3:
		return box(m.typ(deep - 1))
	case 4:
		return ref(m.Intn(3), m.typ(deep-1))
	case 5:
		return mut(m.Intn(3), m.typ(deep-1))
	}
	x := str(string(rune('A'+m.Intn(4))), nil)
	for range m.Intn(3) {
		x.Regions = append(x.Regions, m.Intn(4))
	}
	for range m.Intn(3) {
		x.Args = append(x.Args, m.typ(deep-1))
	}
	return x
}

// leaf is a region or a parameter that stands in a field, and the ways that are gone through to come to it.
type leaf struct {
	region int
	name   string
	path   []int
}

// leaves: all leaves of a type, each with the whole path to it, worked out from the words of the chapter by itself.
func leaves(t T, path []int, w vary.Ways) []leaf {
	under := func(way int) []int { return append(slices.Clone(path), way) }
	slot := func(i int) int {
		if i >= len(w[t.Name]) {
			return 3
		}
		return w[t.Name][i]
	}
	var l []leaf
	at := func(int) []int { return path }
	switch t.Kind {
	case types.Ref:
		l = append(l, leaf{region: t.Region, path: path})
		if t.Mut {
			at = func(int) []int { return under(3) }
		}
	case types.Dyn:
		l = append(l, leaf{region: t.Region, path: path})
	case types.Param:
		l = append(l, leaf{name: t.Name, path: path})
	case types.Struct:
		for i, r := range t.Regions {
			l = append(l, leaf{region: r, path: under(slot(i))})
		}
		at = func(i int) []int { return under(slot(len(t.Regions) + i)) }
	}
	for i, a := range t.Args {
		l = append(l, leaves(a, at(i), w)...)
	}
	return l
}

// directions: which directions (along 1, against 2) the ways of a path come to, taken together in all choices.
func directions(path []int) int {
	along, against := true, false
	for _, way := range path {
		p, q := way&1 != 0, way&2 != 0
		along, against = along && p || against && q, along && q || against && p
	}
	n := 0
	if along {
		n |= 1
	}
	if against {
		n |= 2
	}
	return n
}

func onceByWords(l []vary.Def, w vary.Ways) vary.Ways {
	out := vary.Ways{}
	for _, d := range l {
		slots := make([]int, d.Lifes+len(d.Types))
		for _, f := range d.Fields {
			for _, x := range leaves(f, nil, w) {
				for i := range d.Lifes {
					if x.name == "" && x.region == i+1 {
						slots[i] |= directions(x.path)
					}
				}
				if i := slices.Index(d.Types, x.name); i >= 0 {
					slots[d.Lifes+i] |= directions(x.path)
				}
			}
		}
		out[d.Name] = slots
	}
	return out
}

func (m *maker) ways() vary.Ways {
	w := vary.Ways{}
	for _, d := range m.defs {
		for range d.Lifes + len(d.Types) + m.Intn(3) - 1 {
			w[d.Name] = append(w[d.Name], m.Intn(4))
		}
	}
	return w
}

func alike(l []vary.Def, a, b vary.Ways) bool {
	for _, d := range l {
		if !slices.Equal(a[d.Name], b[d.Name]) {
			return false
		}
	}
	return len(a) == len(b)
}

// P8.1: Once is what the words of the chapter say, over many structs and ways.
func TestOnceRandom(t *testing.T) {
	for seed := range int64(4000) {
		m := newMaker(seed)
		w := m.ways()
		if got, want := vary.Once(m.defs, w), onceByWords(m.defs, w); !alike(m.defs, got, want) {
			t.Fatalf("%d: %+v %v: %v, want %v", seed, m.defs, w, got, want)
		}
	}
}

// P8.2: Once of what Find answers is that; of all ways of which Once says no more, none is less in any slot.
func TestFindLeast(t *testing.T) {
	looked := 0
	for seed := range int64(3000) {
		m := newMaker(seed)
		got := vary.Find(m.defs)
		if !alike(m.defs, vary.Once(m.defs, got), got) {
			t.Fatalf("%d: %+v: %v", seed, m.defs, got)
		}
		slots := 0
		for _, d := range m.defs {
			slots += d.Lifes + len(d.Types)
		}
		if slots > 4 {
			continue
		}
		for n := range 1 << (2 * slots) {
			w := spread(m.defs, n)
			if !below(m.defs, onceByWords(m.defs, w), w) {
				continue
			}
			looked++
			if !below(m.defs, got, w) {
				t.Fatalf("%d: %+v: %v isn't below %v", seed, m.defs, got, w)
			}
		}
	}
	if looked < 10000 {
		t.Error(looked)
	}
}

// spread: the ways that a number's bits say, slot by slot.
func spread(l []vary.Def, n int) vary.Ways {
	w := vary.Ways{}
	for _, d := range l {
		slots := []int{}
		for range d.Lifes + len(d.Types) {
			slots = append(slots, n&3)
			n >>= 2
		}
		w[d.Name] = slots
	}
	return w
}

// below: is each way of a within that of b?
func below(l []vary.Def, a, b vary.Ways) bool {
	for _, d := range l {
		for i, w := range a[d.Name] {
			if w&^b[d.Name][i] != 0 {
				return false
			}
		}
	}
	return true
}
