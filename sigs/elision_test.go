package sigs_test

import (
	"math/rand"
	"slices"
	"strconv"
	"testing"

	"chattel/api"
	"chattel/names"
	"chattel/sigs"
	"chattel/tree"
)

// lifeCount: how many lifetimes the structs of ahead have.
var lifeCount = map[string]int{"One": 1, "Two": 2, "Of": 0, "View": 2}

// headMaker makes heads at random, from which many lifetimes are left out.
type headMaker struct {
	*rand.Rand
	line  int
	lifes []string // that are there, 'static too
	types []string
}

func (m *headMaker) at() api.Pos {
	m.line++
	return api.Pos{Line: m.line, Col: 1 + m.Intn(9)}
}

// life: one that is there; "": it is left out.
func (m *headMaker) life() string {
	if m.Intn(2) == 0 {
		return ""
	}
	return m.lifes[m.Intn(len(m.lifes))]
}

func (m *headMaker) typ(deep int) tree.Type {
	x := tree.Type{Kind: tree.TInt, At: m.at()}
	n := m.Intn(9)
	if deep == 0 {
		n = m.Intn(2)
	}
	switch n {
	case 0, 1:
		if len(m.types) > 0 && n == 0 {
			x.Kind, x.Name = tree.TName, m.types[m.Intn(len(m.types))]
		}
	case 2:
		x.Kind, x.Args = tree.TBox, []tree.Type{m.part(deep)}
	case 3, 4:
		x.Kind, x.Life, x.Mut, x.Args = tree.TRef, m.life(), m.Intn(2) == 0, []tree.Type{m.part(deep)}
	default:
		x.Kind, x.Name = tree.TName, []string{"One", "Two", "Of", "View"}[n-5]
		if m.Intn(2) == 0 {
			for range lifeCount[x.Name] {
				x.Lifes = append(x.Lifes, m.lifes[m.Intn(len(m.lifes))])
			}
		}
		if n > 6 {
			x.Args = []tree.Type{m.typ(deep - 1)}
		}
	}
	return x
}

// part: what stands right behind a pointer: it may be a dyn.
func (m *headMaker) part(deep int) tree.Type {
	if m.Intn(3) == 0 {
		return tree.Type{Kind: tree.TDyn, Name: "Q", Life: m.life(), At: m.at()}
	}
	return m.typ(deep - 1)
}

func (m *headMaker) params(n int) []tree.Param {
	var l []tree.Param
	for i := range n {
		l = append(l, tree.Param{Name: "x" + strconv.Itoa(i), Type: m.typ(m.Intn(4)), At: m.at()})
	}
	return l
}

func (m *headMaker) where() []tree.Bound {
	var l []tree.Bound
	for range m.Intn(3) {
		l = append(l, tree.Bound{Name: m.lifes[m.Intn(len(m.lifes))], Lifes: []string{m.lifes[m.Intn(len(m.lifes))]}, At: m.at()})
	}
	return l
}

// declare: lifetimes of a head's own, behind those that are there.
func (m *headMaker) declare(ahead ...string) []string {
	own := []string{"'c", "'d", "'e"}[:m.Intn(4)]
	m.lifes = slices.Concat([]string{names.Static}, ahead, own)
	return own
}

func (m *headMaker) fn(name string) tree.Item {
	m.types = []string{"T", "U"}[:m.Intn(3)]
	x := tree.Item{Kind: tree.IFn, Name: name, Gen: tree.Generics{Lifes: m.declare(), Types: m.types}, At: m.at()}
	x.Fields, x.Ret, x.Where = m.params(m.Intn(3)), m.typ(3), m.where()
	return x
}

// methods as they are asked for, in which the lifetimes ahead are there.
func (m *headMaker) methods(asked []tree.Method, ahead ...string) []tree.Method {
	var l []tree.Method
	for _, a := range asked {
		x := tree.Method{Name: a.Name, Recv: a.Recv, Lifes: m.declare(ahead...), At: m.at()}
		if x.Recv != tree.Own {
			x.Life = m.life()
		}
		x.Params, x.Ret, x.Where = m.params(len(a.Params)), m.typ(3), m.where()
		l = append(l, x)
	}
	return l
}

func (m *headMaker) items() []tree.Item {
	var asked []tree.Method
	for i := range 3 {
		asked = append(asked, tree.Method{Name: "m" + strconv.Itoa(i), Recv: 1 + m.Intn(3), Params: make([]tree.Param, m.Intn(3))})
	}
	m.types = nil
	trait := tree.Item{Kind: tree.ITrait, Name: "M", Methods: m.methods(asked), At: m.at()}
	plain := tree.Item{Kind: tree.IImpl, Name: "M", Head: "int", Methods: m.methods(asked), At: m.at()}
	m.types = []string{"T"}
	view := tree.Item{Kind: tree.IImpl, Name: "M", Head: "View", Methods: m.methods(asked, "'a", "'b"), At: m.at()}
	l := []tree.Item{trait, plain, view, m.fn("f"), m.fn("g")}
	m.Shuffle(len(l), func(i, j int) { l[i], l[j] = l[j], l[i] })
	return l
}

// writer writes out the lifetimes that are left out of heads, and what is told of those that can't be.
type writer struct {
	errs []api.Err
	seen map[string]int // lifetimes that stand in the parameters
}

// fill: a type with those lifetimes that left tells; alone is the one of a dyn that stands here.
func (w *writer) fill(x tree.Type, left func() string, alone string) tree.Type {
	use := func(s string) string {
		if s != names.Static {
			w.seen[s]++
		}
		return s
	}
	inner := names.Static
	switch x.Kind {
	case tree.TRef:
		if x.Life == "" {
			x.Life = left()
		}
		inner = use(x.Life)
	case tree.TDyn:
		if x.Life == "" {
			x.Life = alone
		}
		use(x.Life)
	case tree.TName:
		x.Lifes = slices.Clone(x.Lifes)
		for len(x.Lifes) < lifeCount[x.Name] {
			x.Lifes = append(x.Lifes, left())
		}
		for _, s := range x.Lifes {
			use(s)
		}
	}
	args := x.Args
	x.Args = nil
	for _, a := range args {
		x.Args = append(x.Args, w.fill(a, left, inner))
	}
	return x
}

// head: a head's own lifetimes, that of self, its parameters and what it answers, all written.
func (w *writer) head(own []string, recv int, self string, params []tree.Param, ret tree.Type) ([]string, string, []tree.Param, tree.Type) {
	w.seen = map[string]int{}
	own = slices.Clone(own)
	left := func() string {
		own = append(own, "'x"+strconv.Itoa(len(own)))
		return own[len(own)-1]
	}
	if recv != tree.Own && self == "" {
		self = left()
	}
	params = slices.Clone(params)
	for i := range params {
		params[i].Type = w.fill(params[i].Type, left, "")
	}
	var there []string
	for s := range w.seen {
		there = append(there, s)
	}
	at := ret.At
	ret = w.fill(ret, func() string {
		switch {
		case recv != tree.Own:
			return self
		case len(there) == 1:
			return there[0]
		}
		w.errs = append(w.errs, api.Err{Code: api.Life, At: at})
		return names.Static
	}, "")
	return own, self, params, ret
}

func (w *writer) item(x tree.Item) tree.Item {
	if x.Kind == tree.IFn {
		x.Gen.Lifes, _, x.Fields, x.Ret = w.head(x.Gen.Lifes, tree.Own, "", x.Fields, x.Ret)
	}
	x.Methods = slices.Clone(x.Methods)
	for i, m := range x.Methods {
		m.Lifes, m.Life, m.Params, m.Ret = w.head(m.Lifes, m.Recv, m.Life, m.Params, m.Ret)
		x.Methods[i] = m
	}
	return x
}

func build(t *testing.T, l []tree.Item) (*sigs.Env, []api.Err) {
	t.Helper()
	tab, wrong := names.New(l)
	if len(wrong) > 0 {
		t.Fatal(wrong, tree.Print(l))
	}
	return sigs.Build(tab)
}

// P9.2: heads in which all lifetimes are written, as those that are left out are numbered, are the same; and P9.1: Life is told of those that can't be.
func TestElision(t *testing.T) {
	first := table(t, ahead).Items
	some, none := 0, 0
	for seed := range int64(5000) {
		m := &headMaker{Rand: rand.New(rand.NewSource(seed)), line: 20}
		short := slices.Concat(first, m.items())
		w := &writer{}
		var long []tree.Item
		for _, x := range short {
			if x.Kind != tree.IStruct {
				x = w.item(x)
			}
			long = append(long, x)
		}
		a, errs := build(t, short)
		b, told := build(t, long)
		if !slices.Equal(errs, w.errs) || len(told) > 0 {
			t.Fatalf("%d: %s\ntells %v\nwant  %v\nand %v", seed, tree.Print(short), errs, w.errs, told)
		}
		if a.Text() != b.Text() {
			t.Fatalf("%d: %s\n%s", seed, tree.Print(short), tree.Print(long))
		}
		if len(errs) > 0 {
			some++
		} else if tree.Print(short) != tree.Print(long) {
			none++
		}
	}
	if some < 500 || none < 500 {
		t.Error(some, none)
	}
}
