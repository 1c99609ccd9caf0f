package pick

import (
	"slices"

	"chattel/types"
)

// infer finds what stands for type parameters, by their names.
type infer struct {
	asked map[string]int        // those that are asked for
	found map[string]types.Type // what stands for them
}

// Infer: which types type parameters stand for, by types that are asked for and types that are there; of pairs without such parameters nothing is asked. False: one is nowhere, or it isn't so.
func Infer(names []string, want, have []types.Type) ([]types.Type, bool) {
	if len(want) != len(have) {
		return nil, false
	}
	f := infer{asked: map[string]int{}, found: map[string]types.Type{}}
	for i, s := range names {
		f.asked[s] = i
	}
	for i, w := range want {
		if slices.ContainsFunc(types.Names(w), f.asks) && !f.fits(w, have[i]) {
			return nil, false
		}
	}
	var l []types.Type
	for _, s := range names {
		t, ok := f.found[s]
		if !ok {
			return nil, false
		}
		l = append(l, types.Erase(t))
	}
	return l, true
}

// asks: is it a parameter that is asked for?
func (f infer) asks(name string) bool {
	_, ok := f.asked[name]
	return ok
}

// fits: is a type that is there one that is asked for, but for regions?
func (f infer) fits(want, have types.Type) bool {
	if want.Kind == types.Param && f.asks(want.Name) {
		return f.stands(want.Name, have)
	}
	return want.Kind == have.Kind && want.Name == have.Name && want.Mut == have.Mut && slices.EqualFunc(want.Args, have.Args, f.fits)
}

// stands: may a type stand for a parameter, as what stood for it ahead does?
func (f infer) stands(name string, t types.Type) bool {
	if t.Kind == types.Dyn {
		return false
	}
	if first, ok := f.found[name]; ok {
		return types.Same(first, t)
	}
	f.found[name] = t
	return true
}
