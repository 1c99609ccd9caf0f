package lower

import (
	"slices"

	"chattel/api"
	"chattel/grab"
	"chattel/mir"
	"chattel/tree"
	"chattel/types"
)

func (l *lowerer) stmts(list []tree.Stmt) {
	for _, s := range list {
		l.stmt(s)
	}
}

// block: its variables aren't there any more behind it.
func (l *lowerer) block(list []tree.Stmt, at api.Pos) {
	ahead := len(l.vars)
	l.stmts(list)
	var locals []int
	for _, v := range l.vars[ahead:] {
		locals = append(locals, v.place.Local)
	}
	l.shut(locals, at)
	l.vars = l.vars[:ahead]
}

func (l *lowerer) stmt(s tree.Stmt) {
	from := len(l.temps)
	switch s.Kind {
	case tree.SLet:
		l.let(s)
	case tree.SSet:
		l.set(s)
	case tree.SExpr:
		l.loose(only(s.E, s.At))
	case tree.SIf:
		l.branch(s)
	case tree.SWhile:
		l.loop(s, from)
	case tree.SReturn:
		l.leave(s)
	case tree.SAbort:
		l.emit(mir.Instr{Kind: mir.Abort, At: s.At})
	case tree.SBlock:
		l.block(s.Body, s.At)
	default:
		fail(api.Kind, s.At)
	}
	// Behind a return nothing is there any more.
	if s.Kind != tree.SReturn {
		l.shut(l.temps[from:], s.At)
	}
	l.forget(from)
}

// only: the expression that a statement must have.
func only(list []tree.Expr, at api.Pos) tree.Expr {
	if len(list) == 0 {
		fail(api.Kind, at)
	}
	return list[0]
}

// fit: what does where a type is asked for.
func (l *lowerer) fit(r mir.Right, have, want types.Type, at api.Pos) mir.Right {
	if types.Same(have, want) {
		return r
	}
	if !l.picker().Becomes(have, want) {
		fail(api.Kind, at)
	}
	return mir.Right{Kind: mir.Coerce, Args: []mir.Operand{l.valueOf(r, have, at).op}}
}

func (l *lowerer) let(s tree.Stmt) {
	asks := s.Type.Kind != 0
	var t types.Type
	if asks {
		t = l.written(s.Type)
	}
	if len(s.E) == 0 {
		if !asks {
			fail(api.Kind, s.At)
		}
		n := l.local(s.Name, t, s.At)
		l.emit(mir.Instr{Kind: mir.Live, Local: n, At: s.At})
		l.declare(s.Name, n)
		return
	}
	r, have := l.right(s.E[0], t)
	if asks {
		r = l.fit(r, have, t, s.At)
	} else {
		t = fresh(have)
	}
	n := l.local(s.Name, t, s.At)
	l.open(n, r, s.At)
	l.declare(s.Name, n)
}

// set: the value is reckoned first; but its closures stand behind those of the place.
func (l *lowerer) set(s tree.Stmt) {
	place, e := only(s.Place, s.At), only(s.E, s.At)
	want := l.placeType(place)
	first := l.next
	l.next += closures(place)
	r, have := l.right(e, want)
	if !l.straight(r) || !l.simple(place) {
		r = use(l.hold(l.valueOf(r, have, e.At)).op)
	}
	last := l.next
	l.next = first
	p, t := l.place(place)
	l.next = last
	r = l.fit(r, have, t, s.At)
	if !l.lets(p) {
		fail(api.Fixed, s.At)
	}
	l.assign(p, r, s.At)
}

// closures: how many stand in an expression, but not in one another.
func closures(e tree.Expr) int {
	if e.Kind == tree.EClosure {
		return 1
	}
	n := 0
	for _, a := range e.Args {
		n += closures(a)
	}
	return n
}

// placeType: of where a value will go, found ahead of it; none, if something is wrong there: that is told in its turn.
func (l *lowerer) placeType(e tree.Expr) types.Type {
	_, t, ok := grab.Root(l.picker(), l.scope(), e)
	if !ok {
		l.dry(func() { _, t = l.place(e) })
	}
	return t
}

// straight: may what a right side comes to be put at once where it goes? Not if it is reckoned through what is lent: that may be lent just what is set, and for the last time here.
func (l *lowerer) straight(r mir.Right) bool {
	return !slices.ContainsFunc(r.Args, func(o mir.Operand) bool {
		if o.Kind == mir.Const || r.Kind == mir.Use && len(o.Place.Path) == 0 {
			return false
		}
		return !regionless(l.body.Locals[o.Place.Local].Type)
	})
}

// loose: a value that nobody wants.
func (l *lowerer) loose(e tree.Expr) {
	r, t := l.right(e, types.Type{})
	l.hold(l.valueOf(r, t, e.At))
}

// condition: a statement's, a bool.
func (l *lowerer) condition(s tree.Stmt) mir.Operand {
	e := only(s.E, s.At)
	r, t := l.right(e, types.Type{})
	return l.valueOf(l.fit(r, t, types.Type{Kind: types.Bool}, s.At), t, e.At).op
}

// fork: an If that goes on behind itself; where else is told later.
func (l *lowerer) fork(s tree.Stmt) int {
	c := l.condition(s)
	return l.emit(mir.Instr{Kind: mir.If, Cond: c, To: l.here() + 1, At: s.At})
}

func (l *lowerer) branch(s tree.Stmt) {
	fork := l.fork(s)
	l.block(s.Body, s.At)
	if !s.Other {
		l.body.Code[fork].Else = l.here()
		return
	}
	over := l.emit(mir.Instr{Kind: mir.Jump, At: s.At})
	l.body.Code[fork].Else = l.here()
	l.block(s.Else, s.At)
	l.body.Code[over].To = l.here()
}

// loop: the temps of its condition, from from on, are there anew each time.
func (l *lowerer) loop(s tree.Stmt, from int) {
	head := l.here()
	fork := l.fork(s)
	l.block(s.Body, s.At)
	l.shut(l.temps[from:], s.At)
	l.emit(mir.Instr{Kind: mir.Jump, To: head, At: s.At})
	l.body.Code[fork].Else = l.here()
}

func (l *lowerer) leave(s tree.Stmt) {
	r, t := constant(types.Unit, 0), types.Type{Kind: types.Unit}
	if len(s.E) > 0 {
		r, t = l.right(s.E[0], l.job.Sig.Ret)
	}
	l.answer(l.fit(r, t, l.job.Sig.Ret, s.At), s.At)
}
