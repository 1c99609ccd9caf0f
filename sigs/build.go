package sigs

import (
	"slices"

	"chattel/api"
	"chattel/life"
	"chattel/names"
	"chattel/tree"
	"chattel/types"
)

// builder makes the heads of a program, and tells what is wrong with them.
type builder struct {
	table  *names.Table
	env    *Env
	counts map[string]int // how many lifetimes structs have
	errs   []api.Err
}

// Build: the heads of a program whose items are right, and what is wrong with them.
func Build(t *names.Table) (*Env, []api.Err) {
	if t == nil {
		return nil, nil
	}
	b := &builder{table: t, env: &Env{}}
	b.structs()
	for _, x := range t.Items {
		b.item(x)
	}
	b.env.Close()
	return b.env, b.errs
}

func (b *builder) tell(code api.Errno, at api.Pos) {
	b.errs = append(b.errs, api.Err{Code: code, At: at})
}

// structs are made ahead of all others: a type that leaves a struct's lifetimes out has as many as it has, wherever that stands.
func (b *builder) structs() {
	var items []tree.Item
	for _, x := range b.table.Items {
		if x.Kind == tree.IStruct {
			items = append(items, x)
			b.env.Structs = append(b.env.Structs, Struct{Name: x.Name, Lifes: len(x.Gen.Lifes), Types: slices.Clone(x.Gen.Types)})
		}
	}
	b.counts = b.env.lifeCounts()
	for i, x := range items {
		b.env.Structs[i].Fields = b.fields(x)
	}
}

func (b *builder) fields(x tree.Item) []Field {
	var l []Field
	c := newConverter(b.counts, scopeOf(x.Gen, len(x.Gen.Lifes)))
	for _, f := range x.Fields {
		l = append(l, Field{Name: f.Name, Type: c.typ(f.Type, 0)})
	}
	return l
}

// scopeOf: the scope of a head with so many lifetimes, those that are left out too: behind them stand the regions of types.
func scopeOf(g tree.Generics, lifes int) Scope {
	s := Scope{Lifes: g.Lifes, Types: g.Types}
	for i := range g.Types {
		s.Of = append(s.Of, lifes+1+i)
	}
	return s
}

func (b *builder) item(x tree.Item) {
	switch x.Kind {
	case tree.ITrait:
		b.env.Traits = append(b.env.Traits, Trait{Name: x.Name, Methods: b.methods(x.Methods, tree.Generics{})})
	case tree.IImpl:
		g, _ := b.table.Of(x.Head)
		b.env.Impls = append(b.env.Impls, Impl{Trait: x.Name, Head: x.Head, Bounds: bounds(x.Where), Methods: b.methods(x.Methods, g), At: x.At})
	case tree.IFn:
		s, _ := b.sig(head{gen: x.Gen, params: x.Fields, ret: x.Ret, where: x.Where, at: x.At})
		b.env.Fns = append(b.env.Fns, Fn{Name: x.Name, Sig: s, At: x.At})
	}
}

// methods: heads, among the generics of what they are of.
func (b *builder) methods(l []tree.Method, g tree.Generics) []Method {
	var heads []Method
	for _, m := range l {
		own := tree.Generics{Lifes: slices.Concat(g.Lifes, m.Lifes), Types: g.Types}
		s, self := b.sig(head{gen: own, byRef: m.Recv != tree.Own, life: m.Life, params: m.Params, ret: m.Ret, where: m.Where, at: m.At})
		heads = append(heads, Method{Name: m.Name, Recv: m.Recv, Life: self, Sig: s, At: m.At})
	}
	return heads
}

// bounds: which names have which traits.
func bounds(where []tree.Bound) []Bound {
	var l []Bound
	for _, x := range where {
		for _, trait := range x.Traits {
			l = append(l, Bound{Type: x.Name, Trait: trait})
		}
	}
	return l
}

// head is what a signature is made of, as it is written.
type head struct {
	gen    tree.Generics
	byRef  bool   // it has a self that is a reference
	life   string // of that
	params []tree.Param
	ret    tree.Type
	where  []tree.Bound
	at     api.Pos
}

// sig: a head's signature, and the region of self's reference.
func (b *builder) sig(h head) (Sig, int) {
	s := Sig{Lifes: len(h.gen.Lifes) + b.leftOut(h), Types: slices.Clone(h.gen.Types), Bounds: bounds(h.where)}
	c := newConverter(b.counts, scopeOf(h.gen, s.Lifes))
	last := len(h.gen.Lifes)
	c.New = func() int {
		last++
		return last
	}
	self, params := taken(c, h)
	s.Params = params
	c.New = b.answered(h, self, s)
	s.Ret = c.typ(h.ret, 0)
	for _, x := range h.where {
		for _, name := range x.Lifes {
			s.Outs = append(s.Outs, [2]int{c.region(x.Name), c.region(name)})
		}
	}
	if Count(s) > life.Max {
		b.tell(api.Limit, h.at)
	}
	return s, self
}

// leftOut: how many lifetimes are left out of self and of the parameters. The regions of types stand behind them: so they are counted first.
func (b *builder) leftOut(h head) int {
	n := 0
	c := newConverter(b.counts, scopeOf(h.gen, 0))
	c.New = func() int {
		n++
		return 0
	}
	taken(c, h)
	return n
}

// taken: the region of self's reference, and the types of the parameters, in the order of the text.
func taken(c *converter, h head) (self int, params []types.Type) {
	if h.byRef {
		self = c.life(h.life)
	}
	for _, p := range h.params {
		params = append(params, c.typ(p.Type, 0))
	}
	return self, params
}

// answered: what tells the region of a lifetime that is left out of what is answered.
func (b *builder) answered(h head, self int, s Sig) func() int {
	if h.byRef {
		return func() int { return self }
	}
	if r, ok := only(s); ok {
		return func() int { return r }
	}
	return func() int {
		b.tell(api.Life, h.ret.At)
		return 0
	}
}

// only: the one lifetime that stands in the parameters, but 'static; false: there is none, or another one.
func only(s Sig) (int, bool) {
	one := 0
	for _, t := range s.Params {
		for _, r := range types.All(t) {
			switch {
			case r <= 0 || r > s.Lifes || r == one:
			case one == 0:
				one = r
			default:
				return 0, false
			}
		}
	}
	return one, one != 0
}
