package sigs_test

import (
	"maps"
	"math/rand"
	"reflect"
	"slices"
	"testing"

	"chattel/api"
	"chattel/sigs"
	"chattel/types"
	"chattel/vary"
)

// rising: the same pairs, rising; a pair that stands twice stands twice.
func rising(l [][2]int) [][2]int {
	return slices.SortedFunc(slices.Values(l), func(p, q [2]int) int { return slices.Compare(p[:], q[:]) })
}

// P9.1: what structs need, by their fields and by the structs in these.
func TestNeeds(t *testing.T) {
	e := heads(t, `
struct Plain < 'a , 'b , T > { x : & 'a int , y : & 'b mut int , z : T , u : Box < T > }
struct Ref < 'a , 'b , T > { x : & 'a & 'b T }
struct Whole < 'a , T , U > { x : & 'a mut Plain < 'a , 'static , Box < U > > }
struct In < 'c , 'd > { x : Ref < 'd , 'c , int > , y : Ref < 'static , 'd , & 'c int > }
struct Round < 'a , 'b , T > { x : Box < Other < 'b , 'a , T > > }
struct Other < 'a , 'b , T > { x : Box < Round < 'b , 'a , T > > , y : & 'a T , z : & 'b dyn Q + 'a }
struct Long < 'a > { x : & 'static & 'a int , y : & 'a & 'static int , z : & 'a & 'a int }
struct Args < 'a , 'b , T > { x : Ref < 'a , 'a , Of < & 'b T > > }
struct Of < T > { x : T }
struct Self < 'a , 'b > { x : Box < Self < 'b , 'a > > , y : & 'a & 'b int }
trait Q { }
`)
	for name, want := range map[string][][2]int{
		"Plain": nil,
		"Ref":   {{2, 1}, {3, 1}, {3, 2}},
		"Whole": {{3, 1}},
		// Ref < 'static , 'd , & 'c int >: 'd and 'c outlive 'static, and 'c outlives 'd.
		"In":    {{1, 0}, {1, 2}, {2, 0}},
		"Round": {{2, 1}, {3, 2}},
		"Other": {{1, 2}, {3, 1}},
		"Long":  {{1, 0}},
		"Args":  {{2, 1}, {3, 1}, {3, 2}},
		"Of":    nil,
		"Self":  {{1, 2}, {2, 1}},
	} {
		if got := rising(e.Needs[name]); !slices.Equal(got, want) {
			t.Errorf("%s: %v, want %v", name, got, want)
		}
	}
}

// P9.1: the ways of structs are layer 8's.
func TestWays(t *testing.T) {
	e := heads(t, "struct S < 'a , 'b , T > { x : & 'a mut & 'b int , y : R < T > } struct R < U > { x : & 'static mut U } struct E < 'a > { }")
	want := vary.Ways{"S": {1, 3, 3}, "R": {3}, "E": {0}}
	if !maps.EqualFunc(e.Ways, want, slices.Equal[[]int]) {
		t.Error(e.Ways)
	}
}

// P9.1: Close finds both anew, of the structs that there are by then.
func TestCloseAnew(t *testing.T) {
	e := heads(t, "struct S < 'a , 'b > { x : & 'a & 'b int }")
	e.Structs = append(e.Structs, sigs.Struct{Name: "f#0", Lifes: 3, Types: []string{"T"}, Fields: []sigs.Field{{Name: "x", Type: mut(2, str("S", []int{3, 1}))}, {Name: "y", Type: ref(3, param("T", 4))}}})
	e.Close()
	if got := rising(e.Needs["f#0"]); !slices.Equal(got, [][2]int{{1, 2}, {1, 3}, {3, 2}, {4, 3}}) || !slices.Equal(e.Ways["f#0"], []int{3, 1, 3, 1}) {
		t.Error(got, e.Ways)
	}
	if !slices.Equal(e.Needs["S"], [][2]int{{2, 1}}) || !slices.Equal(e.Ways["S"], []int{1, 1}) {
		t.Error(e.Needs, e.Ways)
	}
	e.Structs = []sigs.Struct{{Name: "S", Lifes: 1}}
	e.Close()
	if len(e.Needs["S"])+len(e.Needs["f#0"]) != 0 || len(e.Ways) != 1 || !slices.Equal(e.Ways["S"], []int{0}) {
		t.Error(e.Needs, e.Ways)
	}
	e.Structs, e.Needs, e.Ways = nil, types.Needs{"S": {{1, 2}}}, vary.Ways{"S": {1}}
	e.Close()
	if len(e.Needs)+len(e.Ways) != 0 {
		t.Error(e.Needs, e.Ways)
	}
}

// P9.1 (rule 6): it ends, whatever there is.
func TestCloseOdd(t *testing.T) {
	var none *sigs.Env
	none.Close()
	e := &sigs.Env{Heads: api.Heads{Structs: []sigs.Struct{
		{Name: "S", Lifes: -1, Fields: []sigs.Field{{Type: ref(1, ref(2))}, {Type: str("S", []int{4, 5})}}},
		{Name: "S", Lifes: 1 << 40, Fields: []sigs.Field{{Type: ref(-3, ref(7))}, {Type: str("S", nil)}}},
		{Name: "", Fields: []sigs.Field{{Type: T{Kind: 77, Args: []T{ref(3, str("", []int{2}))}}}, {Type: str("Nowhere", []int{1})}}},
	}}}
	e.Close()
	if !slices.Equal(rising(e.Needs[""]), [][2]int{{2, 3}}) {
		t.Error(e.Needs)
	}
}

// P9.1: fields that lie 2^16 deep in one another.
func TestCloseDeep(t *testing.T) {
	x := param("T", 4)
	for i := range 1<<16 - 2 {
		x = ref(1+i%3, x)
	}
	e := &sigs.Env{Heads: api.Heads{Structs: []sigs.Struct{{Name: "S", Lifes: 3, Types: []string{"T"}, Fields: []sigs.Field{{Type: x}}}}}}
	e.Close()
	if got := rising(e.Needs["S"]); !slices.Equal(got, [][2]int{{1, 2}, {1, 3}, {2, 1}, {2, 3}, {3, 1}, {3, 2}, {4, 1}, {4, 2}, {4, 3}}) {
		t.Error(got)
	}
}

// P9.1: a long row of structs, each in the one ahead: what the last needs comes to all.
func TestNeedsRow(t *testing.T) {
	e := &sigs.Env{}
	name := func(i int) string { return string(rune('a'+i/26)) + string(rune('a'+i%26)) }
	for i := range 60 {
		e.Structs = append(e.Structs, sigs.Struct{Name: name(i), Lifes: 2, Fields: []sigs.Field{{Type: str(name(i+1), []int{2, 1})}}})
	}
	e.Structs = append(e.Structs, sigs.Struct{Name: name(60), Lifes: 2, Fields: []sigs.Field{{Type: ref(1, ref(2))}}})
	e.Close()
	if !slices.Equal(e.Needs[name(0)], [][2]int{{2, 1}}) || !slices.Equal(e.Needs[name(1)], [][2]int{{1, 2}}) {
		t.Error(e.Needs)
	}
}

// maker makes types over structs A, B and C at random.
type maker struct{ *rand.Rand }

func (m maker) typ(deep, regions int) T {
	n := m.Intn(8)
	if deep == 0 {
		n %= 3
	}
	switch n {
	case 0:
		return integer
	case 1:
		return dyn(m.Intn(regions))
	case 2:
		return param("T", m.Intn(regions))
	case 3:
		return box(m.typ(deep-1, regions))
	case 4:
		return ref(m.Intn(regions), m.typ(deep-1, regions))
	case 5:
		return mut(m.Intn(regions), m.typ(deep-1, regions))
	}
	x := str(string(rune('A'+m.Intn(3))), nil)
	for range m.Intn(3) {
		x.Regions = append(x.Regions, m.Intn(regions))
	}
	for range m.Intn(3) {
		x.Args = append(x.Args, m.typ(deep-1, regions))
	}
	return x
}

func (m maker) structs() []sigs.Struct {
	var l []sigs.Struct
	for i := range 1 + m.Intn(2) {
		s := sigs.Struct{Name: string(rune('A' + i)), Lifes: 1 + m.Intn(2)}
		if s.Lifes == 1 && m.Intn(2) == 0 {
			s.Types = []string{"T"}
		}
		for range m.Intn(3) {
			s.Fields = append(s.Fields, sigs.Field{Type: m.typ(3, 1+s.Lifes+len(s.Types))})
		}
		l = append(l, s)
	}
	return l
}

// holds: do fields need no more than these needs?
func holds(l []sigs.Struct, needs types.Needs) bool {
	for _, s := range l {
		for _, f := range s.Fields {
			for _, p := range types.Wf(f.Type, needs) {
				if p[0] != p[1] && p[0] != 0 && !slices.Contains(needs[s.Name], p) {
					return false
				}
			}
		}
	}
	return true
}

// P9.1: with what is found fields need no more; of all that is so, nothing has less.
func TestNeedsLeast(t *testing.T) {
	pairs := [][2]int{{1, 0}, {1, 2}, {2, 0}, {2, 1}}
	looked, some := 0, 0
	for seed := range int64(4000) {
		m := maker{rand.New(rand.NewSource(seed))}
		e := &sigs.Env{Heads: api.Heads{Structs: m.structs()}}
		e.Close()
		if !holds(e.Structs, e.Needs) {
			t.Fatalf("%d: %+v: %v", seed, e.Structs, e.Needs)
		}
		for n := range 1 << (len(pairs) * len(e.Structs)) {
			needs := types.Needs{}
			for i, s := range e.Structs {
				for j, p := range pairs {
					if n>>(i*len(pairs)+j)&1 == 1 {
						needs[s.Name] = append(needs[s.Name], p)
					}
				}
			}
			if !holds(e.Structs, needs) {
				continue
			}
			looked++
			for name, l := range e.Needs {
				for i, p := range l {
					if !slices.Contains(needs[name], p) || slices.Contains(l[:i], p) {
						t.Fatalf("%d: %+v: %v isn't within %v", seed, e.Structs, e.Needs, needs)
					}
				}
				some += len(l)
			}
		}
	}
	if looked < 10000 || some < 10000 {
		t.Error(looked, some)
	}
}

// P9.1: Known is the least relation that has Outs and all that layer 7's Wf says.
func TestKnownRandom(t *testing.T) {
	for seed := range int64(4000) {
		m := maker{rand.New(rand.NewSource(seed))}
		e := &sigs.Env{Heads: api.Heads{Structs: m.structs()}}
		e.Close()
		s := sigs.Sig{Lifes: 5, Types: []string{"T"}, Outs: [][2]int{{m.Intn(7), m.Intn(7)}, {m.Intn(7), m.Intn(7)}}, Params: []T{m.typ(4, 7), m.typ(2, 7)}, Ret: m.typ(3, 7)}
		known := slices.Clone(s.Outs)
		for _, x := range append([]T{s.Ret}, s.Params...) {
			known = append(known, types.Wf(x, e.Needs)...)
		}
		var reach [7][7]bool
		for i := range 7 {
			reach[0][i], reach[i][i] = true, true
		}
		for _, p := range known {
			reach[p[0]][p[1]] = true
		}
		for k := range 7 {
			for i := range 7 {
				for j := range 7 {
					reach[i][j] = reach[i][j] || reach[i][k] && reach[k][j]
				}
			}
		}
		r := e.Known(s)
		for i := range 7 {
			for j := range 7 {
				if r.Has(i, j) != reach[i][j] {
					t.Fatalf("%d: %+v: %d %d", seed, s, i, j)
				}
			}
		}
	}
}

// P9.1 (rule 4): what Close answers is new memory.
func TestCloseNewMemory(t *testing.T) {
	s := sigs.Struct{Name: "S", Lifes: 2, Types: []string{"T"}, Fields: []sigs.Field{{Type: ref(1, ref(2, param("T", 3)))}}}
	same := sigs.Struct{Name: "S", Lifes: 2, Types: []string{"T"}, Fields: []sigs.Field{{Type: ref(1, ref(2, param("T", 3)))}}}
	e := &sigs.Env{Heads: api.Heads{Structs: []sigs.Struct{s}}}
	e.Close()
	e.Needs["S"][0], e.Ways["S"][0] = [2]int{7, 7}, 7
	e.Close()
	if !reflect.DeepEqual(s, same) || e.Ways["S"][0] != 1 || slices.Contains(e.Needs["S"], [2]int{7, 7}) {
		t.Error(s, e.Needs, e.Ways)
	}
}
