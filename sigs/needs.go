package sigs

import (
	"maps"
	"slices"

	"chattel/asks"
	"chattel/types"
	"chattel/vary"
)

// Close finds what structs need, and how they change with their lifetimes and types.
func (e *Env) Close() {
	if e == nil {
		return
	}
	e.Ways = vary.Find(defs(e.Structs))
	e.Needs = needs(e.Structs)
}

func defs(l []Struct) []vary.Def {
	var out []vary.Def
	for _, s := range l {
		d := vary.Def{Name: s.Name, Lifes: s.Lifes, Types: s.Types}
		for _, f := range s.Fields {
			d.Fields = append(d.Fields, f.Type)
		}
		out = append(out, d)
	}
	return out
}

// needs: the least that hold. What fields need only grows with what structs need, so to begin with nothing comes to it.
func needs(l []Struct) types.Needs {
	found := types.Needs{}
	for grown := true; grown; {
		grown = false
		for _, s := range l {
			more := fieldNeeds(s, found)
			grown = grown || !slices.Equal(more, found[s.Name])
			found[s.Name] = more
		}
	}
	return found
}

// fieldNeeds: what is found of a struct, and what its fields need by what is found of all, rising. A struct's regions have the numbers of its slots.
func fieldNeeds(s Struct, found types.Needs) [][2]int {
	all := map[[2]int]struct{}{}
	for _, p := range found[s.Name] {
		all[p] = struct{}{}
	}
	for _, f := range s.Fields {
		asks.Each(f.Type, found, func(p [2]int) {
			if long := p[0]; long != 0 && p != [2]int{long, long} {
				all[p] = struct{}{}
			}
		})
	}
	return slices.SortedFunc(maps.Keys(all), func(p, q [2]int) int { return slices.Compare(p[:], q[:]) })
}
