package pick

import (
	"slices"

	"chattel/mir"
	"chattel/sigs"
	"chattel/types"
)

// Part is a field: behind how many pointers, which one, its type.
type Part struct {
	Derefs int
	Index  int
	Type   types.Type
}

// inside: a struct's field's type, in a struct of that type.
func inside(s sigs.Struct, t types.Type, f sigs.Field) types.Type {
	return types.Inst(f.Type, t.Regions, s.Types, t.Args)
}

// Field: the field of that name that a type has, or what it points to, the nearest.
func (p Picker) Field(t types.Type, name string) (Part, bool) {
	for n, x := range chain(t) {
		if x.Kind != types.Struct {
			continue
		}
		s, _ := p.Env.Struct(x.Name)
		i := slices.IndexFunc(s.Fields, func(f sigs.Field) bool { return f.Name == name })
		if i >= 0 {
			return Part{Derefs: n, Index: i, Type: inside(s, x, s.Fields[i])}, true
		}
	}
	return Part{}, false
}

// step: the type of what is at one step of a path.
func (p Picker) step(t types.Type, i int) (types.Type, bool) {
	if i == mir.Deref {
		return points(t)
	}
	if t.Kind != types.Struct {
		return types.Type{}, false
	}
	s, _ := p.Env.Struct(t.Name)
	if i < 0 || i >= len(s.Fields) {
		return types.Type{}, false
	}
	return inside(s, t, s.Fields[i]), true
}

// At: the type of a part; false: there is none.
func (p Picker) At(t types.Type, path []int) (types.Type, bool) {
	var ok bool
	for _, i := range path {
		if t, ok = p.step(t, i); !ok {
			return types.Type{}, false
		}
	}
	return t, true
}

// Lets: may what is at a part be written, or lent to be? (All pointers that are gone through are Boxes, or let it.)
func (p Picker) Lets(t types.Type, path []int) bool {
	ok := true
	for _, i := range path {
		if i == mir.Deref && (!ok || t.Kind == types.Ref && !t.Mut) {
			return false
		}
		if ok {
			t, ok = p.step(t, i)
		}
	}
	return true
}
