package lower

import (
	"slices"

	"chattel/api"
	"chattel/grab"
	"chattel/mir"
	"chattel/tree"
	"chattel/types"
)

// value is an operand that was reckoned.
type value struct {
	op   mir.Operand
	typ  types.Type
	at   api.Pos
	kept bool // nothing that is reckoned later changes it
}

func use(o mir.Operand) mir.Right {
	return mir.Right{Kind: mir.Use, Args: []mir.Operand{o}}
}

func constant(kind int, n uint64) mir.Right {
	return use(mir.Operand{Kind: mir.Const, Type: kind, N: n})
}

// operand: what is at a place is copied, or moved.
func operand(p mir.Place, t types.Type, at api.Pos) mir.Operand {
	o := mir.Operand{Kind: mir.Copy, Place: p}
	if t.Kind == types.Dyn {
		fail(api.Kind, at)
	}
	if !types.Copies(t) {
		o.Kind = mir.Move
		if slices.Contains(p.Path, mir.Deref) {
			fail(api.Moved, at)
		}
	}
	return o
}

// valueOf: what a right side comes to; what is at a place is as yet only pointed out.
func (l *lowerer) valueOf(r mir.Right, t types.Type, at api.Pos) value {
	if r.Kind == mir.Use {
		return value{op: r.Args[0], typ: t, at: at, kept: r.Args[0].Kind == mir.Const}
	}
	return value{op: operand(l.temp(r, t, at), t, at), typ: t, at: at, kept: true}
}

// hold: a value that is taken now.
func (l *lowerer) hold(v value) value {
	if v.kept {
		return v
	}
	return value{op: operand(l.temp(use(v.op), v.typ, v.at), v.typ, v.at), typ: v.typ, at: v.at, kept: true}
}

// part: one that an expression must have.
func part(e tree.Expr, i int) tree.Expr {
	if i >= len(e.Args) {
		fail(api.Kind, e.At)
	}
	return e.Args[i]
}

// right: what an expression comes to, as a right side, and its type; what is asked for is asked by others, but for what a Box is of.
func (l *lowerer) right(e tree.Expr, want types.Type) (mir.Right, types.Type) {
	switch e.Kind {
	case tree.EInt:
		return constant(types.Int, e.Val), types.Type{Kind: types.Int}
	case tree.EBool:
		var bit uint64
		if e.Val == 1 {
			bit = 1
		}
		return constant(types.Bool, bit), types.Type{Kind: types.Bool}
	case tree.EFloat:
		return constant(types.Float, e.Val), types.Type{Kind: types.Float}
	case tree.EUnit:
		return constant(types.Unit, 0), types.Type{Kind: types.Unit}
	case tree.EVar, tree.EField, tree.EDeref:
		p, t := l.place(e)
		return use(operand(p, t, e.At)), t
	case tree.EParen:
		return l.right(part(e, 0), want)
	}
	return l.reckoned(e, want)
}

// reckoned: likewise of an expression that is neither a constant nor a place.
func (l *lowerer) reckoned(e tree.Expr, want types.Type) (mir.Right, types.Type) {
	switch e.Kind {
	case tree.ERef:
		p, t := l.place(part(e, 0))
		return l.lend(p, t, e.Mut, e.At)
	case tree.EBox:
		return l.box(e, want)
	case tree.EUnbox:
		return l.unbox(e)
	case tree.EStruct:
		return l.construct(e)
	case tree.ECall:
		return l.call(e)
	case tree.EMethod:
		return l.method(e)
	case tree.EBin, tree.EUn:
		return l.operator(e)
	case tree.EChoose:
		return mir.Right{Kind: mir.Choose}, types.Type{Kind: types.Bool}
	case tree.EClosure:
		return l.closure(e)
	}
	fail(api.Kind, e.At)
	return mir.Right{}, types.Type{}
}

// place: where an expression's value is; one that is no place is put somewhere.
func (l *lowerer) place(e tree.Expr) (mir.Place, types.Type) {
	switch e.Kind {
	case tree.EVar:
		v, ok := l.find(e.Name)
		if !ok {
			fail(api.Unknown, e.At)
		}
		return mir.Place{Local: v.place.Local, Path: slices.Clone(v.place.Path)}, v.typ
	case tree.EField:
		p, t := l.place(part(e, 0))
		f, ok := l.picker().Field(t, e.Name)
		if !ok {
			fail(api.Unknown, e.At)
		}
		return step(behind(p, f.Derefs), f.Index), f.Type
	case tree.EDeref:
		p, t := l.place(part(e, 0))
		to, ok := l.picker().At(t, []int{mir.Deref})
		if !ok {
			fail(api.Kind, e.At)
		}
		return step(p, mir.Deref), to
	case tree.EParen:
		return l.place(part(e, 0))
	}
	r, t := l.right(e, types.Type{})
	return l.temp(r, t, e.At), t
}

// behind: what is behind so many pointers.
func behind(p mir.Place, pointers int) mir.Place {
	return step(p, slices.Repeat([]int{mir.Deref}, pointers)...)
}

// lets: may a place be written?
func (l *lowerer) lets(p mir.Place) bool {
	return l.picker().Lets(l.body.Locals[p.Local].Type, p.Path)
}

func (l *lowerer) lend(p mir.Place, t types.Type, mut bool, at api.Pos) (mir.Right, types.Type) {
	if mut && !l.lets(p) {
		fail(api.Fixed, at)
	}
	return mir.Right{Kind: mir.Borrow, Place: p, Mut: mut}, types.Type{Kind: types.Ref, Mut: mut, Args: []types.Type{t}}
}

// box: of what becomes what a Box is asked to be of.
func (l *lowerer) box(e tree.Expr, want types.Type) (mir.Right, types.Type) {
	var of types.Type
	if want.Kind == types.Box && len(want.Args) == 1 {
		of = want.Args[0]
	}
	r, t := l.right(part(e, 0), of)
	if l.picker().Becomes(t, of) {
		r, t = l.fit(r, t, of, e.At), of
	}
	v := l.valueOf(r, t, e.At)
	return mir.Right{Kind: mir.NewBox, Args: []mir.Operand{v.op}}, types.Type{Kind: types.Box, Args: []types.Type{t}}
}

func (l *lowerer) unbox(e tree.Expr) (mir.Right, types.Type) {
	v := l.value(part(e, 0), types.Type{})
	t, ok := l.picker().At(v.typ, []int{mir.Deref})
	if !ok || v.typ.Kind != types.Box || t.Kind == types.Dyn {
		fail(api.Kind, e.At)
	}
	return mir.Right{Kind: mir.Unbox, Args: []mir.Operand{v.op}}, t
}

func (l *lowerer) value(e tree.Expr, want types.Type) value {
	r, t := l.right(e, want)
	return l.valueOf(r, t, e.At)
}

func (l *lowerer) operator(e tree.Expr) (mir.Right, types.Type) {
	kind, n := mir.Un, 1
	if e.Kind == tree.EBin {
		kind, n = mir.Bin, 2
	}
	part(e, n-1)
	vs := l.values(e.Args[:n], make([]types.Type, n), false)
	of := vs[0].typ.Kind
	to := operated(e.Kind, e.Name, of)
	if to == 0 || vs[n-1].typ.Kind != of {
		fail(api.Kind, e.At)
	}
	return mir.Right{Kind: kind, Name: e.Name, Args: operands(vs)}, types.Type{Kind: to}
}

// operated: the kind of what an operator makes of one kind; 0: nothing.
func operated(kind int, op string, of int) int {
	number := of == types.Int || of == types.Float
	truth := of == types.Bool
	if kind == tree.EUn {
		if op == "-" && number || op == "!" && truth {
			return of
		}
		return 0
	}
	switch op {
	case "+", "-", "*", "/":
		if number {
			return of
		}
	case "<":
		if number {
			return types.Bool
		}
	case "==":
		if number || truth {
			return types.Bool
		}
	case "&&", "|":
		if truth {
			return of
		}
	}
	return 0
}

func operands(vs []value) []mir.Operand {
	var l []mir.Operand
	for _, v := range vs {
		l = append(l, v.op)
	}
	return l
}

// What it takes to reckon an expression.
const (
	nothing = iota // it is a constant
	looking        // it is looked where it is
	working        // instructions of its own
)

func (l *lowerer) effort(e tree.Expr) int {
	switch e.Kind {
	case tree.EInt, tree.EBool, tree.EFloat, tree.EUnit:
		return nothing
	}
	if l.simple(e) {
		return looking
	}
	return working
}

// simple: is it a place that is come to without instructions?
func (l *lowerer) simple(e tree.Expr) bool {
	_, _, ok := grab.Root(l.picker(), l.scope(), e)
	return ok
}

// far: may something that is lent be gone through to a place?
func (l *lowerer) far(p mir.Place) bool {
	return len(p.Path) > 0 && !regionless(l.body.Locals[p.Local].Type)
}

// values: expressions, reckoned from left to right, each asked to be of a type. One that is only pointed out is read late, by what uses all of them. So it is taken at once, if something is done behind it; also if something is read behind it, where it goes through what is lent, for that may be lent just what is read; and where all of them are used in another order than that in which they are written (mixed).
func (l *lowerer) values(list []tree.Expr, wants []types.Type, mixed bool) []value {
	rest := make([]int, len(list)+1)
	for i, e := range slices.Backward(list) {
		rest[i] = max(rest[i+1], l.effort(e))
	}
	var vs []value
	for i, e := range list {
		v := l.value(e, wants[i])
		later := rest[i+1]
		if later == working || later == looking && (mixed || l.far(v.op.Place)) {
			v = l.hold(v)
		}
		vs = append(vs, v)
	}
	return vs
}
