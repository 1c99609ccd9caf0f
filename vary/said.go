package vary

import (
	"chattel/types"
)

// said: what a struct's fields say of its slots, if structs change in these ways.
func said(d Def, ways Ways) []int {
	k := lifes(d)
	slots := make([]int, k+len(d.Types))
	params := map[string]int{}
	for i, s := range d.Types {
		if _, ok := params[s]; !ok {
			params[s] = k + i
		}
	}
	f := fields{ways: ways}
	f.life = func(r, way int) {
		if r >= 1 && r <= k {
			slots[r-1] |= way
		}
	}
	f.param = func(name string, way int) {
		if i, ok := params[name]; ok {
			slots[i] |= way
		}
	}
	for _, t := range d.Fields {
		f.look(t, Co)
	}
	return slots
}

// fields are gone through with the ways of structs; what they say of lifetimes and parameters is told to life and param.
type fields struct {
	ways  Ways
	life  func(r, way int)
	param func(name string, way int)
}

// look: what a type that stands in this way says.
func (f fields) look(t types.Type, way int) {
	switch t.Kind {
	case types.Struct:
		f.lookStruct(t, way)
		return
	case types.Ref:
		f.life(t.Region, way)
		if t.Mut {
			way = Through(way, Inv)
		}
	case types.Dyn:
		f.life(t.Region, way)
	case types.Param:
		f.param(t.Name, way)
	}
	for _, a := range t.Args {
		f.look(a, way)
	}
}

func (f fields) lookStruct(t types.Type, way int) {
	for i, r := range t.Regions {
		f.life(r, Through(way, Of(f.ways, t.Name, i)))
	}
	for i, a := range t.Args {
		f.look(a, Through(way, Of(f.ways, t.Name, len(t.Regions)+i)))
	}
}
