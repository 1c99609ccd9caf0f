package grab

import (
	"slices"

	"chattel/api"
	"chattel/pick"
	"chattel/tree"
	"chattel/types"
)

// finder goes through a closure, and lists what that has from outside.
type finder struct {
	p    pick.Picker
	vars []Var
	own  map[string]int // how many variables of a name are the closure's own, where the finder is
	list []Grab
}

// have: a place is used in a way; which one is asked only if its variable is from outside.
func (f *finder) have(place tree.Expr, mode func() int) {
	name := bottom(place).Name
	if _, ok := Last(f.vars, name); !ok || f.own[name] > 0 {
		return
	}
	i := slices.IndexFunc(f.list, func(g Grab) bool { return g.Name == name })
	if i < 0 {
		i = len(f.list)
		f.list = append(f.list, Grab{Name: name})
	}
	f.list[i].Mode = max(f.list[i].Mode, mode())
}

// moves: Move of what isn't copied; what has no type is no more than looked at.
func moves(t types.Type, ok bool) int {
	if ok && !types.Copies(t) {
		return Move
	}
	return Shared
}

// value: the value of an expression is used.
func (f *finder) value(e tree.Expr) {
	if isPlace(e) {
		f.have(e, func() int {
			_, t, ok := Root(f.p, f.vars, e)
			return moves(t, ok)
		})
		return
	}
	switch e = bottom(e); e.Kind {
	case tree.ERef:
		f.lent(e.Args, lending(e.Mut))
	case tree.EMethod:
		f.method(e)
	case tree.EClosure:
		f.closure(e)
	default:
		f.values(e.Args)
	}
}

func (f *finder) values(l []tree.Expr) {
	for _, e := range l {
		f.value(e)
	}
}

func lending(mut bool) int {
	if mut {
		return Unique
	}
	return Shared
}

// lent: places are had in one way, others are used.
func (f *finder) lent(l []tree.Expr, mode int) {
	for _, e := range l {
		if isPlace(e) {
			f.have(e, func() int { return mode })
		} else {
			f.value(e)
		}
	}
}

func (f *finder) method(e tree.Expr) {
	if len(e.Args) == 0 {
		return
	}
	object := e.Args[0]
	if isPlace(object) {
		f.have(object, func() int { return f.taken(object, e.Name) })
	} else {
		f.value(object)
	}
	f.values(e.Args[1:])
}

// taken: how a method takes its object.
func (f *finder) taken(object tree.Expr, name string) int {
	_, t, ok := Root(f.p, f.vars, object)
	if !ok {
		return Shared
	}
	found, e := f.p.Method(t, name)
	switch {
	case e != api.OK:
		return Shared
	case found.Method.Recv == tree.Own:
		return moves(found.Type, true)
	}
	return lending(found.Method.Recv == tree.Unique)
}

// count: so many more variables of each name are the closure's own.
func (f *finder) count(n int, names ...string) {
	for _, s := range names {
		f.own[s] += n
	}
}

// closure: what it has, of its own variables nothing.
func (f *finder) closure(e tree.Expr) {
	f.count(1, e.Names...)
	f.block(e.Body)
	f.count(-1, e.Names...)
}

// block: the name of each let is the closure's own behind it, up to the block's end.
func (f *finder) block(l []tree.Stmt) {
	var lets []string
	for _, s := range l {
		f.stmt(s)
		if s.Kind == tree.SLet {
			f.count(1, s.Name)
			lets = append(lets, s.Name)
		}
	}
	f.count(-1, lets...)
}

func (f *finder) stmt(s tree.Stmt) {
	f.values(s.E)
	if s.Kind == tree.SSet {
		f.lent(s.Place, Unique)
		return
	}
	f.block(s.Body)
	f.block(s.Else)
}
