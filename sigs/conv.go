package sigs

import (
	"chattel/names"
	"chattel/tree"
	"chattel/types"
)

// Scope is which lifetimes and type parameters there are: the first ones are 1 and on, the regions of types as told.
type Scope struct {
	Lifes []string
	Types []string
	Of    []int
	New   func() int // the region of a lifetime that is left out
}

// Conv: a type as it is written, with regions; dyn is the region of a dyn that stands alone, without a lifetime.
func (e *Env) Conv(t tree.Type, c Scope, dyn int) types.Type {
	return newConverter(e.lifeCounts(), c).typ(t, dyn)
}

// lifeCounts: how many lifetimes structs have.
func (e *Env) lifeCounts() map[string]int {
	counts := map[string]int{}
	for _, s := range e.orNone().Structs {
		putFirst(counts, s.Name, s.Lifes)
	}
	return counts
}

// putFirst: of one name the first number counts.
func putFirst(m map[string]int, name string, n int) {
	if _, ok := m[name]; !ok {
		m[name] = n
	}
}

// converter turns types as they are written into those of layer 7.
type converter struct {
	Scope
	counts  map[string]int // how many lifetimes structs have
	regions map[string]int // of lifetimes
	params  map[string]int // the regions of type parameters
}

func newConverter(counts map[string]int, s Scope) *converter {
	c := &converter{Scope: s, counts: counts, regions: map[string]int{names.Static: 0}, params: map[string]int{}}
	for i, name := range s.Lifes {
		putFirst(c.regions, name, i+1)
	}
	for i, name := range s.Types {
		r := 0
		if i < len(s.Of) {
			r = s.Of[i]
		}
		putFirst(c.params, name, r)
	}
	return c
}

// typ: dyn is the region of a dyn whose lifetime is left out, if that is all there is of the type.
func (c *converter) typ(t tree.Type, dyn int) types.Type {
	switch t.Kind {
	case tree.TInt:
		return types.Type{Kind: types.Int}
	case tree.TBool:
		return types.Type{Kind: types.Bool}
	case tree.TFloat:
		return types.Type{Kind: types.Float}
	case tree.TUnit, 0: // 0: none is written
		return types.Type{Kind: types.Unit}
	case tree.TName:
		return c.named(t)
	case tree.TBox:
		return types.Type{Kind: types.Box, Args: c.parts(t, 0)}
	case tree.TRef:
		r := c.life(t.Life)
		return types.Type{Kind: types.Ref, Mut: t.Mut, Region: r, Args: c.parts(t, r)}
	case tree.TDyn:
		if t.Life != "" {
			dyn = c.life(t.Life)
		}
		return types.Type{Kind: types.Dyn, Name: t.Name, Region: dyn}
	}
	return types.Type{}
}

func (c *converter) parts(t tree.Type, dyn int) []types.Type {
	var l []types.Type
	for _, a := range t.Args {
		l = append(l, c.typ(a, dyn))
	}
	return l
}

// named: a type parameter, or else a struct: it hides a struct of its name.
func (c *converter) named(t tree.Type) types.Type {
	if r, ok := c.params[t.Name]; ok {
		return types.Type{Kind: types.Param, Name: t.Name, Region: r}
	}
	s := types.Type{Kind: types.Struct, Name: t.Name}
	for _, name := range t.Lifes {
		s.Regions = append(s.Regions, c.life(name))
	}
	if len(t.Lifes) == 0 {
		for range c.counts[t.Name] {
			s.Regions = append(s.Regions, c.life(""))
		}
	}
	s.Args = c.parts(t, 0)
	return s
}

// life: the region of a lifetime; without a name it is left out.
func (c *converter) life(name string) int {
	if name != "" {
		return c.regions[name]
	}
	if c.New == nil {
		return Fresh
	}
	return c.New()
}

// region: of what a bound is of, a lifetime or a type parameter.
func (c *converter) region(name string) int {
	if r, ok := c.params[name]; ok {
		return r
	}
	return c.regions[name]
}
