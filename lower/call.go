package lower

import (
	"slices"

	"chattel/api"
	"chattel/mir"
	"chattel/pick"
	"chattel/sigs"
	"chattel/tree"
	"chattel/types"
)

// given: values that do where types are asked for, and what type parameters of these names stand for.
func (l *lowerer) given(list []tree.Expr, names []string, asked []types.Type, mixed bool, at api.Pos) ([]value, []types.Type) {
	if len(list) != len(asked) {
		fail(api.Kind, at)
	}
	vs := l.values(list, asked, mixed)
	var have []types.Type
	for _, v := range vs {
		have = append(have, v.typ)
	}
	args, ok := pick.Infer(names, asked, have)
	if !ok {
		fail(api.Kind, at)
	}
	for i, v := range vs {
		want := types.Inst(asked[i], nil, names, args)
		vs[i] = l.valueOf(l.fit(use(v.op), v.typ, want, at), want, at)
	}
	return vs, args
}

func (l *lowerer) construct(e tree.Expr) (mir.Right, types.Type) {
	s, ok := l.heads.Struct(e.Name)
	if !ok || len(e.Names) != len(e.Args) {
		fail(api.Unknown, e.At)
	}
	places := l.fieldPlaces(s, e)
	var asked []types.Type
	for _, i := range places {
		asked = append(asked, s.Fields[i].Type)
	}
	vs, args := l.given(e.Args, s.Types, asked, !slices.IsSorted(places), e.At)
	ops := make([]mir.Operand, len(vs))
	for i, v := range vs {
		ops[places[i]] = v.op
	}
	t := types.Inst(sigs.TypeOf(s), nil, s.Types, args)
	return mir.Right{Kind: mir.Make, Name: s.Name, Args: ops, Types: args}, t
}

// fieldPlaces: which of a struct's fields each one is that is written.
func (l *lowerer) fieldPlaces(s sigs.Struct, e tree.Expr) []int {
	var places []int
	for _, name := range e.Names {
		i := slices.IndexFunc(s.Fields, func(f sigs.Field) bool { return f.Name == name })
		if i < 0 {
			fail(api.Unknown, e.At)
		}
		places = append(places, i)
	}
	for i := range s.Fields {
		if !slices.Contains(places, i) {
			fail(api.Unknown, e.At)
		}
	}
	if len(places) > len(s.Fields) {
		fail(api.Twice, e.At)
	}
	return places
}

func (l *lowerer) call(e tree.Expr) (mir.Right, types.Type) {
	f, ok := l.heads.Fn(e.Name)
	if !ok {
		fail(api.Unknown, e.At)
	}
	vs, args := l.given(e.Args, f.Sig.Types, f.Sig.Params, false, e.At)
	stands := func(t types.Type) types.Type { return types.Inst(t, nil, f.Sig.Types, args) }
	for _, b := range f.Sig.Bounds {
		if !l.picker().Has(stands(types.Type{Kind: types.Param, Name: b.Type}), b.Trait) {
			fail(api.Trait, e.At)
		}
	}
	return mir.Right{Kind: mir.Call, Name: e.Name, Args: operands(vs), Types: args}, stands(f.Sig.Ret)
}

// method: where its object is, then the arguments, then the object itself.
func (l *lowerer) method(e tree.Expr) (mir.Right, types.Type) {
	p, t := l.place(part(e, 0))
	f, wrong := l.picker().Method(t, e.Name)
	if wrong != api.OK {
		fail(wrong, e.At)
	}
	p = behind(p, f.Derefs)
	sig := f.Method.Sig
	vs, _ := l.given(e.Args[1:], nil, sig.Params, false, e.At)
	for i, v := range vs {
		if v.op.Place.Local == p.Local || l.far(v.op.Place) {
			vs[i] = l.hold(v)
		}
	}
	ops := append([]mir.Operand{l.self(p, f, e.At)}, operands(vs)...)
	return mir.Right{Kind: mir.Invoke, Name: f.Trait, N: f.Index, Args: ops}, sig.Ret
}

// self: a method's object, taken or lent.
func (l *lowerer) self(p mir.Place, f pick.Found, at api.Pos) mir.Operand {
	if f.Method.Recv == tree.Own {
		return operand(p, f.Type, at)
	}
	mut := f.Method.Recv == tree.Unique
	if q, ok := l.reader(p); ok && !mut {
		return mir.Operand{Kind: mir.Copy, Place: q}
	}
	r, t := l.lend(p, f.Type, mut, at)
	return l.valueOf(r, t, at).op
}

// reader: the reference that only reads, if it is that through which a place is come to: it does for one that is lent anew.
func (l *lowerer) reader(p mir.Place) (mir.Place, bool) {
	n := len(p.Path) - 1
	if n < 0 || p.Path[n] != mir.Deref {
		return mir.Place{}, false
	}
	p.Path = p.Path[:n]
	t, _ := l.picker().At(l.body.Locals[p.Local].Type, p.Path)
	return p, t.Kind == types.Ref && !t.Mut
}
