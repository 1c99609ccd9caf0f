// Package asks tells what types ask of regions, as layer 7's Wf does, for layers that need each thing just once.
package asks

import (
	"slices"

	"chattel/types"
)

// Each lets tell have each pair that layer 7's Wf says of a type; some of them more than once, but seldom as often as Wf does.
func Each(t types.Type, needs types.Needs, tell func([2]int)) {
	each(t, needs, tell)
}

// each answers the regions in the type, too: rising, each once. It asks of one part at a time, with no more in it than regions: all of a deep type's pairs would be as many as the square of its depth, though few of them are unlike.
func each(t types.Type, needs types.Needs, tell func([2]int)) []int {
	parts := t.Args
	t.Args = nil
	in := types.All(t)
	for _, a := range parts {
		l := each(a, needs, tell)
		t.Args = append(t.Args, holding(l))
		in = append(in, l...)
	}
	for _, p := range types.Wf(t, needs) {
		tell(p)
	}
	slices.Sort(in)
	return slices.Compact(in)
}

// holding: a type that has these regions in it, and asks for nothing.
func holding(l []int) types.Type {
	t := types.Type{Kind: types.Box}
	for _, r := range l {
		t.Args = append(t.Args, types.Type{Kind: types.Dyn, Region: r})
	}
	return t
}
