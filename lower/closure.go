package lower

import (
	"slices"

	"chattel/api"
	"chattel/grab"
	"chattel/mir"
	"chattel/num"
	"chattel/sigs"
	"chattel/tree"
	"chattel/types"
)

// mostLifes is how many lifetimes a struct may have for layer 8 to tell how it changes with each.
const mostLifes = 100

// made is what a closure is made of; n is which one it is, in the order of the text.
type made struct {
	n    int
	str  sigs.Struct
	impl sigs.Impl
	job  Job
}

func (l *lowerer) closure(e tree.Expr) (mir.Right, types.Type) {
	m := l.onlyMethod(e)
	c := made{n: l.next, str: sigs.Struct{Name: l.job.Name + "#" + num.Dec(int64(l.next)), Types: slices.Clone(l.job.Sig.Types)}}
	l.next++
	var ops []mir.Operand
	var caught []Caught
	for i, g := range grab.Find(l.picker(), l.scope(), e) {
		op, t := l.had(g, e.At)
		ops = append(ops, op)
		c.str.Fields = append(c.str.Fields, sigs.Field{Name: g.Name, Type: t})
		caught = append(caught, Caught{Name: g.Name, Path: pathTo(m, i, g)})
	}
	number(&c.str)
	if c.str.Lifes > mostLifes {
		fail(api.Limit, l.job.At)
	}
	m = shifted(m, c.str)
	m.At = e.At
	c.impl = sigs.Impl{Trait: e.Name, Head: c.str.Name, Bounds: slices.Clone(l.job.Sig.Bounds), Methods: []sigs.Method{m}, At: e.At}
	l.heads.Structs = append(l.heads.Structs, c.str)
	l.heads.Impls = append(l.heads.Impls, c.impl)
	c.job = Job{
		Name:   Key(e.Name, c.str.Name, 0),
		Sig:    l.heads.Whole(c.impl, m),
		Names:  slices.Concat([]string{""}, e.Names),
		Caught: caught,
		Body:   e.Body,
		At:     e.At,
	}
	l.made = append(l.made, c)
	t := types.Erase(sigs.TypeOf(c.str))
	return mir.Right{Kind: mir.Make, Name: c.str.Name, Args: ops, Types: slices.Clone(t.Args)}, t
}

// onlyMethod: that of the trait that a closure is to have.
func (l *lowerer) onlyMethod(e tree.Expr) sigs.Method {
	trait, ok := l.heads.Trait(e.Name)
	if !ok {
		fail(api.Unknown, e.At)
	}
	if len(trait.Methods) != 1 || len(trait.Methods[0].Sig.Params) != len(e.Names) {
		fail(api.Kind, e.At)
	}
	for i, s := range e.Names {
		if slices.Contains(e.Names[:i], s) {
			fail(api.Twice, e.At)
		}
	}
	return trait.Methods[0]
}

// had: a variable, as a closure has it.
func (l *lowerer) had(g grab.Grab, at api.Pos) (mir.Operand, types.Type) {
	p, t := l.place(tree.Expr{Kind: tree.EVar, Name: g.Name, At: at})
	if g.Mode == grab.Move {
		return operand(p, t, at), t
	}
	r, t := l.lend(p, t, g.Mode == grab.Unique, at)
	return l.valueOf(r, t, at).op, t
}

// pathTo: where in its method's self a closure's field i is the variable.
func pathTo(m sigs.Method, i int, g grab.Grab) []int {
	var path []int
	if m.Recv != tree.Own {
		path = append(path, mir.Deref)
	}
	path = append(path, i)
	if g.Mode != grab.Move {
		path = append(path, mir.Deref)
	}
	return path
}

// number gives each region in a struct's fields a lifetime of its own; that of a type parameter stands behind these.
func number(s *sigs.Struct) {
	marks := make([]types.Type, len(s.Types))
	for i, name := range s.Types {
		marks[i] = types.Type{Kind: types.Param, Name: name, Region: -1 - i}
	}
	for i, f := range s.Fields {
		s.Fields[i].Type = types.Map(types.Inst(types.Erase(f.Type), nil, s.Types, marks), func(r int) int {
			if r < 0 {
				return r
			}
			s.Lifes++
			return s.Lifes
		})
	}
	for i, f := range s.Fields {
		s.Fields[i].Type = types.Map(f.Type, func(r int) int {
			if r < 0 {
				return s.Lifes - r
			}
			return r
		})
	}
}

// shifted: a trait's method as one of a struct's impl, whose lifetimes stand ahead.
func shifted(m sigs.Method, s sigs.Struct) sigs.Method {
	by := func(r int) int {
		if r == 0 {
			return 0
		}
		return r + s.Lifes
	}
	sig := sigs.Sig{Lifes: s.Lifes + m.Sig.Lifes, Types: slices.Clone(s.Types), Bounds: slices.Clone(m.Sig.Bounds), Ret: types.Map(m.Sig.Ret, by)}
	for _, p := range m.Sig.Outs {
		sig.Outs = append(sig.Outs, [2]int{by(p[0]), by(p[1])})
	}
	for _, t := range m.Sig.Params {
		sig.Params = append(sig.Params, types.Map(t, by))
	}
	return sigs.Method{Name: m.Name, Recv: m.Recv, Life: by(m.Life), Sig: sig}
}
