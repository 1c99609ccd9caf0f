package pick_test

import (
	"math/rand"
	"reflect"
	"slices"
	"testing"

	"chattel/api"
	"chattel/names"
	"chattel/parse"
	"chattel/pick"
	"chattel/sigs"
	"chattel/types"
)

type T = types.Type

var (
	integer = T{Kind: types.Int}
	boolean = T{Kind: types.Bool}
	float   = T{Kind: types.Float}
	unit    = T{Kind: types.Unit}
)

func box(a ...T) T { return T{Kind: types.Box, Args: a} }

func ref(r int, a ...T) T { return T{Kind: types.Ref, Region: r, Args: a} }

func mut(r int, a ...T) T { return T{Kind: types.Ref, Mut: true, Region: r, Args: a} }

func dyn(s string, r int) T { return T{Kind: types.Dyn, Name: s, Region: r} }

func param(s string, r int, a ...T) T { return T{Kind: types.Param, Name: s, Region: r, Args: a} }

func str(s string, l []int, a ...T) T {
	return T{Kind: types.Struct, Name: s, Regions: l, Args: a}
}

// heads: those of a text in which nothing is wrong.
func heads(t *testing.T, text string) *sigs.Env {
	t.Helper()
	l, e := parse.Program(text)
	if e != (api.Err{}) {
		t.Fatalf("%s: %v", text, e)
	}
	tab, wrong := names.New(l)
	if len(wrong) > 0 {
		t.Fatalf("%s: %v", text, wrong)
	}
	env, wrong := sigs.Build(tab)
	if len(wrong) > 0 {
		t.Fatalf("%s: %v", text, wrong)
	}
	return env
}

const text = `
struct S { }
struct One < T > { x : T }
struct Two < 'a , 'b , T , U > { x : & 'a T , y : & 'b mut U , z : Box < One < U > > , w : & 'static dyn A + 'b , x2 : T }
struct List < T > { next : Box < List < T > > , v : T , all : & 'static mut & 'static One < T > }
trait A { fn first ( & self ) ; fn a ( self , x : int ) -> int ; fn both ( & self ) ; }
trait B { fn b ( & mut self ) ; fn both ( & mut self ) ; }
trait C { }
impl A for int { fn first ( & self ) { } fn a ( self , x : int ) -> int { return x ; } fn both ( & self ) { } }
impl A for S { fn first ( & self ) { } fn a ( self , x : int ) -> int { return x ; } fn both ( & self ) { } }
impl B for S { fn b ( & mut self ) { } fn both ( & mut self ) { } }
impl B for bool { fn b ( & mut self ) { } fn both ( & mut self ) { } }
impl C for f64 { }
impl A for One where T : A { fn first ( & self ) { } fn a ( self , x : int ) -> int { return x ; } fn both ( & self ) { } }
impl B for One where T : A + B { fn b ( & mut self ) { } fn both ( & mut self ) { } }
impl C for Two where U : B , T : A , U : C { }
impl C for List { }
`

func picker(t *testing.T, bounds ...sigs.Bound) pick.Picker {
	t.Helper()
	return pick.Picker{Env: heads(t, text), Bounds: bounds}
}

// odd: types of no kind, or with what their kind doesn't have, or without what it has.
func odd() []T {
	return []T{
		{},
		{Kind: -1, Name: "S", Region: 4, Args: []T{ref(7, integer)}},
		{Kind: 10, Name: "int", Args: []T{str("S", nil)}},
		{Kind: types.Unit, Name: "A"},
		{Kind: types.Box, Name: "A"},
		{Kind: types.Box, Name: "S", Args: []T{str("S", nil), str("S", nil)}},
		{Kind: types.Ref, Mut: true},
		{Kind: types.Ref, Args: []T{integer, integer}},
		{Kind: types.Dyn, Args: []T{str("S", nil)}},
		{Kind: types.Param, Name: "T", Args: []T{str("S", nil)}},
		{Kind: types.Struct},
		{Kind: types.Struct, Name: "None"},
		str("One", nil),
		str("Two", []int{5}, integer),
	}
}

// P16.1: what impls are for, of each kind.
func TestHead(t *testing.T) {
	for _, c := range []struct {
		x    T
		want string
	}{
		{integer, "int"}, {boolean, "bool"}, {float, "f64"}, {unit, ""},
		{str("S", []int{1}, integer), "S"}, {str("", nil), ""}, {box(integer), ""}, {ref(1, integer), ""},
		{dyn("A", 1), ""}, {param("T", 1), ""}, {T{}, ""}, {T{Kind: 10, Name: "S"}, ""}, {T{Kind: -1, Name: "S"}, ""},
		{T{Kind: types.Int, Name: "S"}, "int"}, {T{Kind: types.Box, Name: "S"}, ""},
	} {
		if s := pick.Head(c.x); s != c.want {
			t.Errorf("%+v: %q, want %q", c.x, s, c.want)
		}
	}
}

// P16.1: of each type which of the traits it has.
func TestHas(t *testing.T) {
	p := picker(t, sigs.Bound{Type: "T", Trait: "A"}, sigs.Bound{Type: "U", Trait: "B"}, sigs.Bound{Type: "T", Trait: "None"})
	s, one := str("S", nil), func(a T) T { return str("One", nil, a) }
	for _, c := range []struct {
		x    T
		want []string
	}{
		{integer, []string{"A"}}, {boolean, []string{"B"}}, {float, []string{"C"}}, {unit, nil},
		{s, []string{"A", "B"}},
		{box(s), nil}, {ref(1, integer), nil}, {mut(1, s), nil},
		{dyn("A", 1), []string{"A"}}, {dyn("None", 1), []string{"None"}}, {dyn("", 1), []string{""}},
		{param("T", 1), []string{"A", "None"}}, {param("U", 2), []string{"B"}}, {param("S", 2), nil},
		{one(integer), []string{"A"}}, {one(boolean), nil}, {one(s), []string{"A", "B"}},
		{one(one(s)), []string{"A", "B"}}, {one(one(integer)), []string{"A"}}, {one(box(s)), nil},
		{one(param("T", 1)), []string{"A"}}, {one(dyn("A", 1)), []string{"A"}}, {one(dyn("B", 1)), nil},
		{str("One", nil), nil}, {str("One", nil, integer, boolean), []string{"A"}},
		{str("Two", []int{1, 2}, integer, s), nil},
		{str("Two", nil, one(param("T", 1)), one(s)), nil},
		{str("List", nil, s), []string{"C"}}, {str("List", nil, box(s)), []string{"C"}}, {str("List", nil), []string{"C"}},
		{str("None", nil), nil},
	} {
		for _, trait := range []string{"A", "B", "C", "D", "S", "None", ""} {
			if p.Has(c.x, trait) != slices.Contains(c.want, trait) {
				t.Errorf("%+v, %q: %v", c.x, trait, p.Has(c.x, trait))
			}
		}
	}
	p.Bounds = append(p.Bounds, sigs.Bound{Type: "U", Trait: "C"})
	if !p.Has(str("Two", []int{1, 2}, integer, param("U", 1)), "C") || p.Has(str("Two", []int{1, 2}, boolean, param("U", 1)), "C") || p.Has(str("Two", []int{1, 2}, integer), "C") {
		t.Error("by several bounds")
	}
}

// P16.1: an impl with bounds of what is no type parameter of the struct is for nothing; of two parameters of one name the first counts.
func TestHasOdd(t *testing.T) {
	env := &sigs.Env{Heads: api.Heads{
		Structs: []sigs.Struct{{Name: "S", Types: []string{"T", "T"}}},
		Impls: []sigs.Impl{
			{Trait: "A", Head: "int"}, {Trait: "B", Head: "int", Bounds: []sigs.Bound{{Type: "T", Trait: "A"}}},
			{Trait: "A", Head: "S", Bounds: []sigs.Bound{{Type: "T", Trait: "A"}}}, {Trait: "B", Head: "S", Bounds: []sigs.Bound{{Type: "U", Trait: "A"}}},
			{Trait: "A", Head: "None"}, {Trait: "B", Head: "None", Bounds: []sigs.Bound{{Type: "T", Trait: "A"}}},
			{Trait: "A", Head: "S"}, {Trait: "A", Head: ""}, {Trait: "A", Head: "bool", Bounds: []sigs.Bound{{Type: "T", Trait: "A"}}},
		},
	}}
	p := pick.Picker{Env: env}
	for _, c := range []struct {
		x          T
		hasA, hasB bool
	}{
		{integer, true, false}, {T{Kind: types.Int, Args: []T{integer}}, true, false}, {boolean, false, false},
		{str("S", nil, integer, boolean), true, false}, {str("S", nil, boolean, integer), false, false}, {str("S", nil), false, false},
		{str("None", nil), true, false}, {str("None", nil, integer), true, false}, {box(integer), false, false}, {unit, false, false},
	} {
		if p.Has(c.x, "A") != c.hasA || p.Has(c.x, "B") != c.hasB {
			t.Errorf("%+v: %v %v", c.x, p.Has(c.x, "A"), p.Has(c.x, "B"))
		}
	}
}

// byWords: has a type a trait, as the chapter says it?
func byWords(p pick.Picker, t T, trait string) bool {
	switch t.Kind {
	case types.Param:
		return slices.Contains(p.Bounds, sigs.Bound{Type: t.Name, Trait: trait})
	case types.Dyn:
		return t.Name == trait
	}
	im, ok := p.Env.Impl(trait, pick.Head(t))
	if !ok {
		return false
	}
	s, _ := p.Env.Struct(pick.Head(t))
	for _, b := range im.Bounds {
		i := slices.Index(s.Types, b.Type)
		if i < 0 || i >= len(t.Args) || !byWords(p, t.Args[i], b.Trait) {
			return false
		}
	}
	return true
}

// anyType: a type of few names, up to so deep.
func anyType(r *rand.Rand, deep int) T {
	few := []T{integer, boolean, float, unit, str("S", nil), dyn("A", 1), dyn("B", 2), dyn("C", 3), param("T", 4), param("U", 5)}
	if deep == 0 || r.Intn(4) == 0 {
		return few[r.Intn(len(few))]
	}
	a, b := anyType(r, deep-1), anyType(r, deep-1)
	switch r.Intn(10) {
	case 0:
		return box(a)
	case 1:
		return ref(r.Intn(5), a)
	case 2:
		return mut(r.Intn(5), a)
	case 3, 4:
		return str("Two", []int{r.Intn(5), r.Intn(5)}, a, b)
	case 5:
		return str("List", nil, a)
	}
	return str("One", nil, a)
}

// P16.1: Has tells the same as its words, asked bound by bound.
func TestHasByWords(t *testing.T) {
	r := rand.New(rand.NewSource(16))
	p := picker(t, sigs.Bound{Type: "T", Trait: "A"}, sigs.Bound{Type: "T", Trait: "B"}, sigs.Bound{Type: "U", Trait: "C"}, sigs.Bound{Type: "U", Trait: "B"})
	had := 0
	for range 20000 {
		x := anyType(r, 5)
		for _, trait := range []string{"A", "B", "C"} {
			if p.Has(x, trait) != byWords(p, x, trait) {
				t.Fatalf("%s, %s: %v", types.Text(x), trait, p.Has(x, trait))
			}
			if x.Kind == types.Struct && len(x.Args) > 0 && p.Has(x, trait) {
				had++
			}
		}
	}
	if had < 200 {
		t.Error(had)
	}
}

// P16.1: what is asked of a type 2^16 deep doesn't double at each step; also of a Dyn, a Param at its end.
func TestHasDeep(t *testing.T) {
	p := picker(t, sigs.Bound{Type: "T", Trait: "B"}, sigs.Bound{Type: "T", Trait: "A"})
	for _, c := range []struct {
		end        T
		hasA, hasB bool
	}{{str("S", nil), true, true}, {integer, true, false}, {boolean, false, false}, {param("T", 1), true, true}, {dyn("A", 1), true, false}} {
		x := c.end
		for range 1<<16 - 1 {
			x = str("One", nil, x)
		}
		if p.Has(x, "A") != c.hasA || p.Has(x, "B") != c.hasB {
			t.Errorf("%+v: %v %v", c.end, p.Has(x, "A"), p.Has(x, "B"))
		}
		if f, e := p.Method(x, "b"); (e == api.OK) != c.hasB || (f.Trait == "B") != c.hasB {
			t.Error(f.Derefs, e)
		}
	}
}

// P16.1: what traits ask of one another in any order is asked once.
func TestHasMixed(t *testing.T) {
	p := pick.Picker{Env: heads(t, "struct One < T > { x : T } trait A { } trait B { } trait C { } impl A for int { } impl B for int { } impl C for int { } impl A for One where T : A + B + C { } impl B for One where T : C + A , T : B { } impl C for One where T : B , T : A + C { }")}
	x, y := integer, boolean
	for range 1000 {
		x, y = str("One", nil, x), str("One", nil, y)
	}
	for _, trait := range []string{"A", "B", "C"} {
		if !p.Has(x, trait) || p.Has(y, trait) {
			t.Error(trait)
		}
	}
}

// P16.1: the nearest method of a name, of which trait and which one.
func TestMethod(t *testing.T) {
	p := picker(t, sigs.Bound{Type: "T", Trait: "A"}, sigs.Bound{Type: "U", Trait: "A"}, sigs.Bound{Type: "U", Trait: "B"})
	s := str("S", nil)
	one := str("One", nil, integer)
	for _, c := range []struct {
		x      T
		name   string
		derefs int
		of     T
		trait  string
		index  int
	}{
		{integer, "first", 0, integer, "A", 0}, {integer, "a", 0, integer, "A", 1}, {integer, "both", 0, integer, "A", 2},
		{boolean, "b", 0, boolean, "B", 0}, {boolean, "both", 0, boolean, "B", 1},
		{s, "a", 0, s, "A", 1}, {s, "b", 0, s, "B", 0},
		{box(s), "a", 1, s, "A", 1}, {ref(1, box(mut(2, s))), "b", 3, s, "B", 0},
		{ref(1, ref(2, integer)), "both", 2, integer, "A", 2},
		{one, "both", 0, one, "A", 2}, {mut(4, one), "first", 1, one, "A", 0},
		{dyn("A", 3), "a", 0, dyn("A", 3), "A", 1}, {box(dyn("B", 3)), "both", 1, dyn("B", 3), "B", 1},
		{param("T", 7), "both", 0, param("T", 7), "A", 2}, {ref(1, param("U", 7)), "b", 1, param("U", 7), "B", 0},
		{str("One", []int{9}, param("T", 7)), "a", 0, str("One", []int{9}, param("T", 7)), "A", 1},
	} {
		f, e := p.Method(c.x, c.name)
		tr, _ := p.Env.Trait(c.trait)
		want := pick.Found{Derefs: c.derefs, Type: c.of, Trait: c.trait, Index: c.index, Method: tr.Methods[c.index]}
		if e != api.OK || !reflect.DeepEqual(f, want) {
			t.Errorf("%+v, %s: %+v %v", c.x, c.name, f, e)
		}
	}
}

// P16.1: Trait, where the nearest has several; Unknown, where none has one.
func TestMethodErrors(t *testing.T) {
	p := picker(t, sigs.Bound{Type: "T", Trait: "A"}, sigs.Bound{Type: "U", Trait: "A"}, sigs.Bound{Type: "U", Trait: "B"}, sigs.Bound{Type: "V", Trait: "None"})
	s := str("S", nil)
	for _, c := range []struct {
		x    T
		name string
		want api.Errno
	}{
		{s, "both", api.Trait}, {box(ref(1, s)), "both", api.Trait}, {param("U", 1), "both", api.Trait}, {str("One", nil, s), "both", api.Trait},
		{integer, "b", api.Unknown}, {integer, "", api.Unknown}, {s, "c", api.Unknown}, {float, "a", api.Unknown}, {unit, "a", api.Unknown},
		{box(box(s)), "x", api.Unknown}, {param("T", 1), "b", api.Unknown}, {param("V", 1), "a", api.Unknown}, {param("W", 1), "a", api.Unknown},
		{dyn("A", 1), "b", api.Unknown}, {dyn("None", 1), "a", api.Unknown}, {str("One", nil, box(s)), "a", api.Unknown},
		{str("One", nil, boolean), "both", api.Unknown}, {str("List", nil, s), "a", api.Unknown},
		{box(s, s), "a", api.Unknown}, {box(), "a", api.Unknown}, {ref(1), "a", api.Unknown}, {T{Kind: 10, Args: []T{s}}, "a", api.Unknown},
		{param("W", 1, s), "a", api.Unknown}, {T{Kind: types.Dyn, Name: "W", Args: []T{s}}, "a", api.Unknown},
	} {
		if f, e := p.Method(c.x, c.name); e != c.want || !reflect.DeepEqual(f, pick.Found{}) {
			t.Errorf("%+v, %s: %+v %v, want %v", c.x, c.name, f, e, c.want)
		}
	}
	// The nearest that has one counts, though further on there are several.
	env := heads(t, "trait A { fn a ( self ) ; } trait B { fn a ( self ) ; } impl A for int { fn a ( self ) { } } impl B for int { fn a ( self ) { } } struct S { x : int }")
	p = pick.Picker{Env: env}
	if _, e := p.Method(ref(1, integer), "a"); e != api.Trait {
		t.Error(e)
	}
	env.Impls = append(env.Impls, sigs.Impl{Trait: "B", Head: "S"})
	if f, e := p.Method(box(str("S", nil)), "a"); e != api.OK || f.Trait != "B" || f.Derefs != 1 {
		t.Error(f, e)
	}
}

// P16.1: of a trait with two methods of one name the first counts.
func TestMethodFirst(t *testing.T) {
	p := pick.Picker{Env: &sigs.Env{Heads: api.Heads{Traits: []sigs.Trait{{Name: "A", Methods: []sigs.Method{{Name: "x"}, {Name: "m", Recv: 1}, {Name: "m", Recv: 2}}}}}}}
	f, e := p.Method(dyn("A", 1), "m")
	if e != api.OK || f.Index != 1 || f.Method.Recv != 1 {
		t.Error(f, e)
	}
}

// P16.1: which pointers become which.
func TestBecomes(t *testing.T) {
	p := picker(t, sigs.Bound{Type: "T", Trait: "A"})
	s := str("S", nil)
	for _, x := range []T{integer, s, param("T", 3), str("One", nil, integer)} {
		for _, wrap := range []func(T) T{
			func(x T) T { return box(x) },
			func(x T) T { return ref(1, x) },
			func(x T) T { return mut(2, x) },
		} {
			if !p.Becomes(wrap(x), wrap(dyn("A", 5))) {
				t.Errorf("%+v", wrap(x))
			}
			if p.Becomes(wrap(x), wrap(dyn("C", 5))) || p.Becomes(wrap(dyn("A", 5)), wrap(x)) || p.Becomes(wrap(x), wrap(x)) {
				t.Errorf("%+v", wrap(x))
			}
		}
	}
	if !p.Becomes(ref(1, integer), ref(9, dyn("A", 5))) || !p.Becomes(T{Kind: types.Box, Mut: true, Args: []T{s}}, box(dyn("A", 1))) {
		t.Error("regions, and what isn't a Box's own, are nothing")
	}
	a := dyn("A", 1)
	for _, c := range [][2]T{
		{box(a), box(a)}, {ref(1, a), ref(1, a)}, {box(dyn("B", 1)), box(a)},
		{ref(1, s), mut(1, a)}, {mut(1, s), ref(1, a)}, {box(s), ref(1, a)}, {ref(1, s), box(a)},
		{box(boolean), box(a)}, {box(box(s)), box(a)}, {box(unit), box(a)}, {box(param("U", 1)), box(a)},
		{box(s), a}, {s, a}, {s, box(a)}, {box(s, s), box(a)}, {box(s), box(a, a)}, {box(), box(a)}, {box(s), box()},
		{box(s), box(box(a))}, {box(box(s)), box(box(a))}, {T{Kind: 10, Args: []T{s}}, T{Kind: 10, Args: []T{a}}},
		{str("One", nil, s), str("One", nil, a)},
	} {
		if p.Becomes(c[0], c[1]) {
			t.Errorf("%+v", c)
		}
	}
}

// P1: of no heads, and of odd types, all calls answer.
func TestNoHeads(t *testing.T) {
	whole := picker(t)
	for _, p := range []pick.Picker{{}, {Env: &sigs.Env{}}, {Bounds: []sigs.Bound{{Type: "T", Trait: "A"}}}, whole} {
		for _, x := range append(odd(), box(integer), mut(1, str("S", nil)), str("Two", []int{1, 2}, integer, integer)) {
			p.Has(x, "A")
			p.Has(x, "")
			p.Becomes(box(x), box(dyn("A", 1)))
			p.Lets(x, []int{0, -1, -2, 3})
			if _, e := p.Method(x, "m"); e != api.Unknown {
				t.Errorf("%+v: %v", x, e)
			}
			if f, ok := p.Field(x, ""); ok || !reflect.DeepEqual(f, pick.Part{}) {
				t.Errorf("%+v: %+v", x, f)
			}
			for _, i := range []int{-2, 12, -1 << 63, 1<<63 - 1} {
				if y, ok := p.At(x, []int{i}); ok || !reflect.DeepEqual(y, T{}) {
					t.Errorf("%+v: %+v", x, y)
				}
			}
		}
	}
	for _, p := range []pick.Picker{{}, {Env: &sigs.Env{}}} {
		if p.Has(integer, "A") || !p.Has(dyn("A", 1), "A") || p.Becomes(box(integer), box(dyn("A", 1))) {
			t.Error("there are no impls")
		}
		if _, ok := p.At(str("S", nil), []int{0}); ok {
			t.Error("there are no structs")
		}
		if y, ok := p.At(ref(1, boolean), []int{-1}); !ok || y.Kind != types.Bool {
			t.Error("a pointer needs no heads")
		}
	}
}
