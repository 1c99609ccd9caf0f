package lower

import (
	"slices"

	"chattel/api"
	"chattel/grab"
	"chattel/mir"
	"chattel/names"
	"chattel/pick"
	"chattel/sigs"
	"chattel/tree"
	"chattel/types"
)

// giveUp is what a lowerer that can't go on panics with, for Lower to tell it from all else.
type giveUp struct{ err api.Err }

func fail(code api.Errno, at api.Pos) { panic(giveUp{api.Err{Code: code, At: at}}) }

// lowerer lowers a job's body. Of the types that it finds no region counts.
type lowerer struct {
	table *names.Table
	heads sigs.Env // with the structs and impls of its closures
	job   Job
	body  mir.Body
	vars  []variable
	temps []int // locals without a name that are there up to the end of the statement
	spare []int // those that aren't there any more, and may be used again
	next  int   // which closure the next one is, in the order of the text
	made  []made
}

// variable is a name for a place.
type variable struct {
	name  string
	place mir.Place
	typ   types.Type
}

// begin: what is ahead of a job's first statement.
func begin(t *names.Table, env *sigs.Env, j Job) *lowerer {
	l := &lowerer{table: t, heads: *env, job: j, body: mir.Body{Name: j.Name, Params: len(j.Sig.Params)}}
	l.heads.Structs = slices.Clone(env.Structs)
	l.heads.Impls = slices.Clone(env.Impls)
	l.local("", j.Sig.Ret, j.At)
	for _, c := range j.Caught {
		l.caught(c)
	}
	for i, t := range j.Sig.Params {
		name := ""
		if i < len(j.Names) {
			name = j.Names[i]
		}
		n := l.local(name, t, j.At)
		if name != "" {
			l.declare(name, n)
		}
	}
	return l
}

// caught: a variable that is a part of the first parameter.
func (l *lowerer) caught(c Caught) {
	if len(l.job.Sig.Params) == 0 {
		return
	}
	if t, ok := l.picker().At(l.job.Sig.Params[0], c.Path); ok {
		l.vars = append(l.vars, variable{name: c.Name, place: step(mir.Place{Local: 1}, c.Path...), typ: t})
	}
}

// all: what comes of the job.
func (l *lowerer) all() Done {
	l.stmts(l.job.Body)
	at := l.job.At
	if l.job.Sig.Ret.Kind == types.Unit {
		l.answer(constant(types.Unit, 0), at)
	} else {
		l.emit(mir.Instr{Kind: mir.Abort, At: at})
	}
	body := l.body // all else of the lowerer isn't kept
	d := Done{Body: &body}
	slices.SortFunc(l.made, func(a, b made) int { return a.n - b.n })
	for _, c := range l.made {
		d.Structs = append(d.Structs, c.str)
		d.Impls = append(d.Impls, c.impl)
		d.Jobs = append(d.Jobs, c.job)
	}
	return d
}

func (l *lowerer) picker() pick.Picker {
	return pick.Picker{Env: &l.heads, Bounds: l.job.Sig.Bounds}
}

// scope: the variables that are there.
func (l *lowerer) scope() []grab.Var {
	var out []grab.Var
	for _, v := range l.vars {
		out = append(out, grab.Var{Name: v.name, Type: v.typ})
	}
	return out
}

// find: the last variable of a name.
func (l *lowerer) find(name string) (variable, bool) {
	for _, v := range slices.Backward(l.vars) {
		if v.name == name {
			return v, true
		}
	}
	return variable{}, false
}

// declare: from now on there is a variable with a local of its own.
func (l *lowerer) declare(name string, local int) {
	l.vars = append(l.vars, variable{name: name, place: mir.Place{Local: local}, typ: l.body.Locals[local].Type})
}

// step: a place with more steps; they may come to lie in its own path's spare room.
func step(p mir.Place, steps ...int) mir.Place {
	p.Path = append(p.Path, steps...)
	return p
}

// local: a new one, told by its number.
func (l *lowerer) local(name string, t types.Type, at api.Pos) int {
	n := len(l.body.Locals)
	if n == api.MaxLocals {
		fail(api.Limit, at)
	}
	l.body.Locals = append(l.body.Locals, mir.Local{Name: name, Type: t, At: at})
	return n
}

// emit: one more instruction, told by its number.
func (l *lowerer) emit(c mir.Instr) int {
	if l.here() == api.MaxPoints {
		fail(api.Limit, c.At)
	}
	l.body.Code = append(l.body.Code, c)
	return l.here() - 1
}

// here: where the next instruction will be.
func (l *lowerer) here() int { return len(l.body.Code) }

func (l *lowerer) assign(p mir.Place, r mir.Right, at api.Pos) {
	l.emit(mir.Instr{Kind: mir.Assign, Dest: p, R: r, At: at})
}

// open: a local is there, with a value.
func (l *lowerer) open(local int, r mir.Right, at api.Pos) {
	l.emit(mir.Instr{Kind: mir.Live, Local: local, At: at})
	l.assign(mir.Place{Local: local}, r, at)
}

// shut: locals aren't there any more, the last ones first.
func (l *lowerer) shut(locals []int, at api.Pos) {
	for _, n := range slices.Backward(locals) {
		l.emit(mir.Instr{Kind: mir.Dead, Local: n, At: at})
	}
}

// answer: what the function answers, and its end.
func (l *lowerer) answer(r mir.Right, at api.Pos) {
	l.assign(mir.Place{}, r, at)
	l.emit(mir.Instr{Kind: mir.Return, At: at})
}

// fresh: a type all of whose regions are the body's own.
func fresh(t types.Type) types.Type {
	return types.Map(t, func(int) int { return sigs.Fresh })
}

// regionless: may nothing in it be of what is lent?
func regionless(t types.Type) bool { return len(types.All(t)) == 0 }

// temp: a local without a name that has what a right side comes to, up to the end of the statement.
func (l *lowerer) temp(r mir.Right, t types.Type, at api.Pos) mir.Place {
	n := l.unused(t, at)
	l.temps = append(l.temps, n)
	l.open(n, r, at)
	return mir.Place{Local: n}
}

// unused: a local for a temp. One that was used already has what it has in one region for all its uses: it is taken only for a type without regions.
func (l *lowerer) unused(t types.Type, at api.Pos) int {
	i := slices.IndexFunc(l.spare, func(n int) bool { return types.Same(l.body.Locals[n].Type, t) })
	if i < 0 {
		return l.local("", fresh(t), at)
	}
	n := l.spare[i]
	l.spare = slices.Concat(l.spare[:i], l.spare[i+1:])
	return n
}

// forget: temps from a place on may be used for others.
func (l *lowerer) forget(from int) {
	for _, n := range l.temps[from:] {
		if regionless(l.body.Locals[n].Type) {
			l.spare = append(l.spare, n)
		}
	}
	l.temps = l.temps[:from]
}

// dry does something, of which nothing comes, nor of that it gave up.
func (l *lowerer) dry(by func()) {
	saved := *l
	defer func() {
		*l = saved
		switch x := recover().(type) {
		case nil, giveUp:
		default:
			panic(x)
		}
	}()
	by()
}

// written: a type in the text, with the regions of lifetimes that have names.
func (l *lowerer) written(x tree.Type) types.Type {
	if wrong := l.table.Type(x, l.job.Lifes, l.job.Sig.Types); len(wrong) > 0 {
		panic(giveUp{wrong[0]})
	}
	c := sigs.Scope{Lifes: l.job.Lifes, Types: l.job.Sig.Types, Of: slices.Repeat([]int{sigs.Fresh}, len(l.job.Sig.Types))}
	return l.heads.Conv(x, c, sigs.Fresh)
}
