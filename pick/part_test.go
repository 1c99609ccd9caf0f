package pick_test

import (
	"math/rand"
	"reflect"
	"slices"
	"testing"

	"chattel/mir"
	"chattel/pick"
	"chattel/sigs"
	"chattel/types"
)

// P16.1: the chapter's example.
func TestExample(t *testing.T) {
	p := pick.Picker{Env: heads(t, "struct S { f : int }")}
	if f, ok := p.Field(box(str("S", nil)), "f"); !ok || f.Derefs != 1 || f.Index != 0 || f.Type.Kind != types.Int {
		t.Error(f, ok)
	}
}

// P16.1: the nearest struct's field of a name, with its type: the struct's regions and types stand in it.
func TestField(t *testing.T) {
	p := picker(t)
	two := str("Two", []int{7, 8}, ref(9, integer), param("V", 4))
	for _, c := range []struct {
		x             T
		name          string
		derefs, index int
		want          T
	}{
		{str("One", nil, integer), "x", 0, 0, integer},
		{box(str("One", nil, dyn("A", 3))), "x", 1, 0, dyn("A", 3)},
		{two, "x", 0, 0, ref(7, ref(9, integer))},
		{two, "y", 0, 1, mut(8, param("V", 4))},
		{two, "z", 0, 2, box(str("One", nil, param("V", 4)))},
		{two, "w", 0, 3, ref(0, dyn("A", 8))},
		{two, "x2", 0, 4, ref(9, integer)},
		{mut(1, box(ref(2, two))), "x2", 3, 4, ref(9, integer)},
		{str("List", nil, ref(1, unit)), "next", 0, 0, box(str("List", nil, ref(1, unit)))},
		{str("List", nil, box(integer)), "all", 0, 2, mut(0, ref(0, str("One", nil, box(integer))))},
	} {
		f, ok := p.Field(c.x, c.name)
		if want := (pick.Part{Derefs: c.derefs, Index: c.index, Type: c.want}); !ok || !reflect.DeepEqual(f, want) {
			t.Errorf("%+v, %s: %+v, want %+v", c.x, c.name, f, want)
		}
	}
}

// P16.1: there is no such field.
func TestNoField(t *testing.T) {
	p := picker(t)
	one := str("One", nil, str("List", nil, integer))
	for _, c := range []struct {
		x    T
		name string
	}{
		{one, "y"}, {one, "v"}, {one, ""}, {box(one), "v"}, {str("S", nil), "x"}, {str("None", nil), "x"}, {str("", nil), "x"},
		{integer, "x"}, {box(integer), "x"}, {dyn("One", 1), "x"}, {param("One", 1), "x"}, {unit, "x"},
		{box(one, one), "x"}, {box(), "x"}, {param("T", 1, one), "x"}, {T{Kind: 10, Name: "One", Args: []T{integer}}, "x"},
		{str("None", nil, one), "x"}, {T{Kind: types.Dyn, Args: []T{one}}, "x"},
	} {
		if f, ok := p.Field(c.x, c.name); ok || !reflect.DeepEqual(f, pick.Part{}) {
			t.Errorf("%+v, %s: %+v", c.x, c.name, f)
		}
	}
}

// P16.1: of two fields of one name the first counts; a struct's type may have fewer regions and types than the struct, or more.
func TestFieldOdd(t *testing.T) {
	env := &sigs.Env{}
	env.Structs = []sigs.Struct{{Name: "S", Lifes: 2, Types: []string{"T", "U", "T"}, Fields: []sigs.Field{
		{Name: "a", Type: integer}, {Name: "f", Type: ref(1, ref(2, ref(3, param("T", 3), param("U", 4), param("V", 1))))}, {Name: "f", Type: integer}, {Name: "", Type: boolean},
	}}}
	p := pick.Picker{Env: env}
	for _, c := range []struct{ x, want T }{
		{str("S", nil), ref(1, ref(2, ref(3, param("T", 3), param("U", 4), param("V", 1))))},
		{str("S", []int{7}, integer), ref(7, ref(2, ref(3, integer, param("U", 4), param("V", 1))))},
		{str("S", []int{7, 8, 9}, integer, boolean, float, unit), ref(7, ref(8, ref(9, integer, boolean, param("V", 1))))},
	} {
		if f, ok := p.Field(c.x, "f"); !ok || !reflect.DeepEqual(f, pick.Part{Index: 1, Type: c.want}) {
			t.Errorf("%+v: %+v", c.x, f)
		}
		if y, ok := p.At(c.x, []int{1}); !ok || !reflect.DeepEqual(y, c.want) {
			t.Errorf("%+v: %+v", c.x, y)
		}
	}
	if f, ok := p.Field(str("S", nil), ""); !ok || f.Index != 3 {
		t.Error(f, ok)
	}
}

// P16.1: the types of parts.
func TestAt(t *testing.T) {
	p := picker(t)
	two := str("Two", []int{7, 8}, ref(9, integer), param("V", 4))
	list := str("List", nil, two)
	for _, c := range []struct {
		x    T
		path []int
		want T
	}{
		{integer, nil, integer}, {integer, []int{}, integer}, {two, nil, two}, {T{Kind: 12}, nil, T{Kind: 12}},
		{box(integer), []int{-1}, integer}, {ref(3, mut(4, dyn("A", 1))), []int{-1, -1}, dyn("A", 1)},
		{two, []int{0}, ref(7, ref(9, integer))}, {two, []int{0, -1}, ref(9, integer)}, {two, []int{0, -1, -1}, integer},
		{two, []int{2, -1, 0}, param("V", 4)}, {two, []int{4, -1}, integer},
		{list, []int{0, -1, 0, -1, 0, -1, 1, 1}, mut(8, param("V", 4))},
		{ref(1, list), []int{-1, 2, -1, -1, 0, 2}, box(str("One", nil, param("V", 4)))},
	} {
		if y, ok := p.At(c.x, c.path); !ok || !reflect.DeepEqual(y, c.want) {
			t.Errorf("%+v, %v: %+v %v", c.x, c.path, y, ok)
		}
	}
	for _, c := range []struct {
		x    T
		path []int
	}{
		{integer, []int{-1}}, {integer, []int{0}}, {box(two), []int{0}}, {two, []int{-1}}, {two, []int{5}}, {two, []int{-2}}, {two, []int{3, -1, 0}},
		{two, []int{3, -1, -1}}, {str("S", nil), []int{0}}, {str("None", nil), []int{0}}, {param("One", 1, integer), []int{0}}, {dyn("A", 1), []int{-1}},
		{box(integer, integer), []int{-1}}, {ref(1), []int{-1}}, {T{Kind: 10, Name: "One", Args: []T{integer}}, []int{0}}, {T{Kind: 10, Args: []T{integer}}, []int{-1}},
		{box(integer), []int{-2}}, {list, []int{0, 0}}, {list, []int{0, -1, 3}},
	} {
		if y, ok := p.At(c.x, c.path); ok || !reflect.DeepEqual(y, T{}) {
			t.Errorf("%+v, %v: %+v", c.x, c.path, y)
		}
	}
}

// P16.1: what may be written: no reference that only reads is gone through, and all that is gone through is there.
func TestLets(t *testing.T) {
	p := picker(t)
	two := str("Two", []int{7, 8}, mut(9, integer), str("S", nil))
	for _, c := range []struct {
		x    T
		path []int
		want bool
	}{
		{integer, nil, true}, {ref(1, integer), nil, true}, {ref(1, integer), []int{-1}, false}, {mut(1, integer), []int{-1}, true}, {box(integer), []int{-1}, true},
		{mut(1, box(mut(2, integer))), []int{-1, -1, -1}, true}, {mut(1, ref(2, mut(3, integer))), []int{-1}, true},
		{mut(1, ref(2, mut(3, integer))), []int{-1, -1}, false}, {mut(1, ref(2, mut(3, integer))), []int{-1, -1, -1}, false},
		{two, []int{0}, true}, {two, []int{0, -1}, false}, {two, []int{0, -1, -1}, false}, {two, []int{1, -1}, true}, {two, []int{4, -1}, true}, {two, []int{2, -1, 0}, true},
		{str("List", nil, integer), []int{0, -1, 0, -1, 2, -1}, true}, {str("List", nil, integer), []int{0, -1, 0, -1, 2, -1, -1}, false},
		// What is gone through must be there; what is come to need not be.
		{integer, []int{-1}, true}, {integer, []int{-1, -1}, false}, {integer, []int{0}, true}, {integer, []int{0, -1}, false}, {two, []int{5}, true}, {two, []int{5, -1}, false},
		{mut(1, integer), []int{-1, -1}, true}, {mut(1, integer), []int{-1, -1, 0}, true}, {mut(1, integer), []int{-1, -1, -1}, false}, {integer, []int{-2}, true}, {integer, []int{-2, -1}, false},
		{box(), []int{-1}, true}, {box(), []int{-1, -1}, false}, {ref(1), []int{-1}, false}, {T{}, []int{-1, 0}, true}, {integer, []int{-1, 0, 0, -1}, false},
	} {
		if p.Lets(c.x, c.path) != c.want {
			t.Errorf("%+v, %v: %v", c.x, c.path, !c.want)
		}
	}
}

// P16.1: Lets and At hang together, on any path: as their words say, part by part.
func TestPathsByWords(t *testing.T) {
	r := rand.New(rand.NewSource(17))
	p := picker(t)
	there := 0
	for range 20000 {
		x := anyType(r, 5)
		var path []int
		y, ok, lets := x, true, true
		for range r.Intn(8) {
			step := r.Intn(6) - 1
			if ok && r.Intn(4) > 0 {
				step = likely(r, p, y)
			}
			path = append(path, step)
			if step == mir.Deref && (!ok || y.Kind == types.Ref && !y.Mut) {
				lets = false
			}
			if ok {
				y, ok = one(p, y, step)
			}
		}
		if !ok {
			y = T{}
		} else if len(path) > 3 {
			there++
		}
		if z, found := p.At(x, path); found != ok || !reflect.DeepEqual(z, y) {
			t.Fatalf("%s, %v: %s %v, want %s %v", types.Text(x), path, types.Text(z), found, types.Text(y), ok)
		}
		if p.Lets(x, path) != lets {
			t.Fatalf("%s, %v: %v", types.Text(x), path, !lets)
		}
	}
	if there < 500 {
		t.Error(there)
	}
}

// likely: a step that a type has, if it has one.
func likely(r *rand.Rand, p pick.Picker, t T) int {
	if s, _ := p.Env.Struct(t.Name); t.Kind == types.Struct && len(s.Fields) > 0 {
		return r.Intn(len(s.Fields))
	}
	return -1
}

// one: one step, by the fields' own names.
func one(p pick.Picker, t T, step int) (T, bool) {
	if step == mir.Deref {
		if t.Kind == types.Box || t.Kind == types.Ref {
			return t.Args[0], true
		}
		return T{}, false
	}
	s, ok := p.Env.Struct(t.Name)
	if t.Kind != types.Struct || !ok || step < 0 || step >= len(s.Fields) {
		return T{}, false
	}
	f, ok := p.Field(t, s.Fields[step].Name)
	return f.Type, ok && f.Derefs == 0 && f.Index == step
}

// P16.1: types and paths 2^16 deep, and types that double at each step.
func TestAtDeep(t *testing.T) {
	p := pick.Picker{Env: heads(t, "struct One < T > { x : T } struct Q < T , U > { } struct P < T > { f : Box < P < Q < T , T > > > , n : int }")}
	const n = 1<<16 - 1
	x, y := integer, str("One", nil, integer)
	for range n {
		x, y = mut(1, x), str("One", nil, y)
	}
	if z, ok := p.At(x, slices.Repeat([]int{mir.Deref}, n)); !ok || z.Kind != types.Int {
		t.Error(z, ok)
	}
	if z, ok := p.At(y, make([]int, n+1)); !ok || z.Kind != types.Int {
		t.Error(z, ok)
	}
	if f, ok := p.Field(x, "x"); ok {
		t.Error(f)
	}
	for range n {
		y = box(y)
	}
	if f, ok := p.Field(y, "x"); !ok || f.Derefs != n {
		t.Error(f.Derefs, ok)
	}
	double := slices.Repeat([]int{0, mir.Deref}, 200)
	if z, ok := p.At(str("P", nil, integer), append(double, 1)); !ok || z.Kind != types.Int || !p.Lets(str("P", nil, integer), double) {
		t.Error(z, ok)
	}
}
