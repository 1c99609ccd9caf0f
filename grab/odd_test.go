package grab_test

import (
	"math/rand"
	"reflect"
	"slices"
	"testing"

	"chattel/api"
	"chattel/grab"
	"chattel/pick"
	"chattel/tree"
	"chattel/types"
)

func v(name string) E { return E{Kind: tree.EVar, Name: name} }

func of(kind int, args ...E) E { return E{Kind: kind, Args: args} }

func loose(l ...E) []S {
	var out []S
	for _, e := range l {
		out = append(out, S{Kind: tree.SExpr, E: []E{e}})
	}
	return out
}

func closure(body ...S) E { return E{Kind: tree.EClosure, Body: body} }

// P17.1: trees that no text is: a place has one part at each step; what isn't a set's has no Place; parts of all kinds are gone into.
func TestOdd(t *testing.T) {
	p := picker(t)
	for _, c := range []struct {
		e    E
		want string
	}{
		{of(tree.EField, v("b"), v("s")), "b move, s move"}, {of(tree.EDeref, v("b"), v("b")), "b move"}, {of(tree.EParen), ""}, {of(tree.EDeref), ""}, {of(tree.EField), ""},
		{of(tree.EParen, of(tree.EDeref, v("b"), v("i"))), "b move, i shared"}, {of(tree.ERef), ""}, {E{Kind: tree.ERef, Mut: true, Args: []E{v("b"), of(tree.ECall, v("s")), v("i")}}, "b unique, s move, i unique"},
		{of(tree.EMethod), ""}, {E{Kind: tree.EMethod, Name: "put", Args: []E{v("s")}}, "s unique"}, {of(99, v("b"), v("i")), "b move, i shared"}, {of(0, v("b")), "b move"}, {of(-1, of(tree.EBox, v("b"))), "b move"},
		{E{Kind: tree.EVar, Name: "b", Args: []E{v("s")}}, "b move"}, {of(tree.EInt, v("b")), "b move"}, {E{Kind: tree.ECall, Body: loose(v("b"))}, ""}, {E{Kind: tree.EClosure, Args: []E{v("b")}, Body: loose(v("i"))}, "i shared"},
	} {
		if got := told(grab.Find(p, vars(), closure(loose(c.e)...))); got != c.want {
			t.Errorf("%+v: %s, want %s", c.e, got, c.want)
		}
	}
	for _, c := range []struct {
		s    S
		want string
	}{
		{S{}, ""}, {S{Kind: 99, E: []E{v("b")}, Body: loose(v("i")), Else: loose(v("s"))}, "b move, i shared, s move"}, {S{Kind: tree.SExpr, Place: []E{v("b")}, E: []E{v("i"), v("s")}}, "i shared, s move"},
		{S{Kind: tree.SSet}, ""}, {S{Kind: tree.SSet, Place: []E{v("b"), v("i")}, E: []E{v("s"), v("j")}, Body: loose(v("p"))}, "s move, j shared, b unique, i unique"},
		{S{Kind: tree.SIf, Else: loose(v("b"))}, "b move"}, {S{Kind: tree.SLet, Name: "b", Body: loose(v("b"))}, "b move"}, {S{Kind: tree.SReturn, Body: loose(v("b"))}, "b move"},
	} {
		if got := told(grab.Find(p, vars(), closure(c.s))); got != c.want {
			t.Errorf("%+v: %s, want %s", c.s, got, c.want)
		}
	}
	if l := grab.Find(p, nil, closure(loose(v("b"))...)); len(l) > 0 {
		t.Error(l)
	}
	if l := grab.Find(p, []grab.Var{{"", box(integer)}}, closure(loose(v(""))...)); told(l) != " move" {
		t.Error(l)
	}
	if name, _, ok := grab.Root(p, vars(), E{Kind: tree.EVar, Name: "b", Args: []E{v("i"), v("s")}}); !ok || name != "b" {
		t.Error("a variable is one, whatever its parts")
	}
}

// P1: what is handed in stays as it is; of no heads all is answered.
func TestNothing(t *testing.T) {
	e := expr(t, "as T | a | { s . put ( b ) ; i = o . in . n ; let x = & mut * m ; as T | | { x ; s . eat ( ) ; } ; }")
	before := expr(t, "as T | a | { s . put ( b ) ; i = o . in . n ; let x = & mut * m ; as T | | { x ; s . eat ( ) ; } ; }")
	l := vars()
	if got := told(grab.Find(picker(t), l, e)); got != "s move, b move, o shared, i unique, m unique" {
		t.Error(got)
	}
	if !reflect.DeepEqual(e, before) || !reflect.DeepEqual(l, vars()) {
		t.Error("changed")
	}
	if got := told(grab.Find(pick.Picker{}, l, e)); got != "s shared, b move, o shared, i unique, m unique" {
		t.Error(got)
	}
}

// random makes trees of all kinds.
type random struct{ *rand.Rand }

func (r random) name() string { return []string{"i", "b", "bb", "s", "o", "m", "x"}[r.Intn(7)] }

func (r random) expr(deep int) E {
	e := E{Kind: r.Intn(19), Name: r.name(), Mut: r.Intn(2) == 0}
	if r.Intn(2) == 0 {
		e.Kind = []int{tree.EVar, tree.EField, tree.EDeref, tree.EParen, tree.ERef, tree.EMethod}[r.Intn(6)]
	}
	switch e.Kind {
	case tree.EField:
		e.Name = []string{"in", "b", "n", "r"}[r.Intn(4)]
	case tree.EMethod:
		e.Name = []string{"look", "put", "eat"}[r.Intn(3)]
	case tree.EVar:
		return e
	}
	if deep == 0 {
		return v(r.name())
	}
	n := 1
	if r.Intn(4) == 0 {
		n = r.Intn(4)
	}
	for range n {
		e.Args = append(e.Args, r.expr(deep-1))
	}
	if e.Kind == tree.EClosure {
		e.Names, e.Body = []string{r.name()}, r.block(deep-1)
	}
	return e
}

func (r random) block(deep int) []S {
	var l []S
	for range r.Intn(4) {
		s := S{Kind: 1 + r.Intn(8), Name: r.name(), E: []E{r.expr(deep)}, Place: []E{r.expr(deep)}}
		if deep > 0 {
			s.Body, s.Else = r.block(deep-1), r.block(deep-1)
		}
		l = append(l, s)
	}
	return l
}

// said does what the chapter says, word by word: all that is had, one behind the other.
type said struct {
	p    pick.Picker
	vars []grab.Var
}

func (s said) place(e E) bool {
	switch e.Kind {
	case tree.EVar:
		return true
	case tree.EField, tree.EDeref, tree.EParen:
		return len(e.Args) == 1 && s.place(e.Args[0])
	}
	return false
}

func (s said) root(e E) (string, T, bool) {
	if e.Kind == tree.EVar {
		x, ok := grab.Last(s.vars, e.Name)
		return e.Name, x, ok
	}
	name, x, ok := s.root(e.Args[0])
	if !ok {
		return name, T{}, false
	}
	switch e.Kind {
	case tree.EField:
		f, ok := s.p.Field(x, e.Name)
		return name, f.Type, ok
	case tree.EDeref:
		x, ok := s.p.At(x, []int{-1})
		return name, x, ok
	}
	return name, x, true
}

func (s said) used(e E) []grab.Grab {
	switch {
	case s.place(e):
		name, x, ok := s.root(e)
		if ok && !types.Copies(x) {
			return []grab.Grab{{name, grab.Move}}
		}
		return []grab.Grab{{name, grab.Shared}}
	case e.Kind == tree.EMethod:
		return s.method(e)
	case e.Kind == tree.EClosure:
		return s.without(e.Names, s.block(e.Body))
	}
	var l []grab.Grab
	for _, a := range e.Args {
		if e.Kind != tree.ERef {
			l = append(l, s.used(a)...)
		} else if e.Mut {
			l = append(l, s.lent(a, grab.Unique)...)
		} else {
			l = append(l, s.lent(a, grab.Shared)...)
		}
	}
	return l
}

func (s said) lent(e E, mode int) []grab.Grab {
	if !s.place(e) {
		return s.used(e)
	}
	name, _, _ := s.root(e)
	return []grab.Grab{{name, mode}}
}

func (s said) method(e E) []grab.Grab {
	var l []grab.Grab
	for i, a := range e.Args {
		if i > 0 || !s.place(a) {
			l = append(l, s.used(a)...)
			continue
		}
		mode := grab.Shared
		name, x, ok := s.root(a)
		if f, wrong := s.p.Method(x, e.Name); ok && wrong == api.OK {
			mode = []int{0, grab.Move, grab.Shared, grab.Unique}[f.Method.Recv]
			if mode == grab.Move && types.Copies(f.Type) {
				mode = grab.Shared
			}
		}
		l = append(l, grab.Grab{Name: name, Mode: mode})
	}
	return l
}

func (s said) without(names []string, l []grab.Grab) []grab.Grab {
	return slices.DeleteFunc(l, func(g grab.Grab) bool { return slices.Contains(names, g.Name) })
}

// block: what is behind a let is without its name.
func (s said) block(l []S) []grab.Grab {
	if len(l) == 0 {
		return nil
	}
	rest := s.block(l[1:])
	if l[0].Kind == tree.SLet {
		rest = s.without([]string{l[0].Name}, rest)
	}
	var first []grab.Grab
	for _, e := range l[0].E {
		first = append(first, s.used(e)...)
	}
	if l[0].Kind == tree.SSet {
		for _, e := range l[0].Place {
			first = append(first, s.lent(e, grab.Unique)...)
		}
	} else {
		first = slices.Concat(first, s.block(l[0].Body), s.block(l[0].Else))
	}
	return append(first, rest...)
}

// P17.1: random trees, held against the chapter's words.
func TestRandom(t *testing.T) {
	p := picker(t)
	all, modes := 0, map[grab.Grab]int{}
	for seed := range int64(20000) {
		r := random{rand.New(rand.NewSource(seed))}
		e := E{Kind: tree.EClosure, Names: []string{r.name()}, Body: r.block(2)}
		s := said{p, vars()}
		var want []grab.Grab
		for _, g := range s.used(e) {
			i := slices.IndexFunc(want, func(x grab.Grab) bool { return x.Name == g.Name })
			if _, ok := grab.Last(s.vars, g.Name); !ok {
				continue
			}
			if i < 0 {
				want = append(want, g)
			} else {
				want[i].Mode = max(want[i].Mode, g.Mode)
			}
		}
		got := grab.Find(p, vars(), e)
		if !slices.Equal(got, want) {
			t.Fatalf("%s: %s, want %s", tree.PrintExpr(e), told(got), told(want))
		}
		all += len(got)
		for _, g := range got {
			modes[g]++
		}
		for _, x := range e.Body {
			for _, y := range x.E {
				name, at, ok := grab.Root(p, vars(), y)
				if s.place(y) {
					n, a, o := s.root(y)
					if ok != o || ok && (name != n || !types.Equal(at, a)) {
						t.Fatal(tree.PrintExpr(y))
					}
				} else if ok {
					t.Fatal(tree.PrintExpr(y))
				}
			}
		}
	}
	if all < 10000 || len(modes) < 17 {
		t.Error(all, modes)
	}
}

// P17.1: 2^16 deep.
func TestDeep(t *testing.T) {
	const n = 1 << 16
	steps, x := v("d"), integer
	other := of(tree.ECall, v("d"))
	body := loose(v("d"))
	for range n {
		steps, x, other = of(tree.EDeref, steps), box(x), of(tree.EParen, other)
		body = []S{{Kind: tree.SBlock, Body: body}}
	}
	l := []grab.Var{{"d", x}}
	for _, c := range []struct {
		e    E
		want string
	}{
		{closure(loose(steps)...), "d shared"}, {closure(loose(of(tree.EParen, steps.Args[0]))...), "d move"}, {closure(loose(E{Kind: tree.ERef, Mut: true, Args: []E{steps}})...), "d unique"},
		{closure(loose(other)...), "d move"}, {closure(body...), "d move"},
	} {
		if got := told(grab.Find(pick.Picker{}, l, c.e)); got != c.want {
			t.Error(got, c.want)
		}
	}
	if name, x, ok := grab.Root(pick.Picker{}, l, steps); !ok || name != "d" || x.Kind != types.Int {
		t.Error(name, ok)
	}
}
