package names

import (
	"slices"

	"chattel/tree"
)

// sizeless: the structs, found by their names, that lie in themselves.
func (t *Table) sizeless() (l []tree.Item) {
	done := nameSet{}
	for _, x := range t.Items {
		s, ok := t.Struct(x.Name)
		if x.Kind == tree.IStruct && ok && done.put(s.Name) && t.liesInItself(s) {
			l = append(l, s)
		}
	}
	return l
}

// liesInItself goes through all that lies in a struct, each name once, behind whatever it came by.
func (t *Table) liesInItself(s tree.Item) bool {
	ahead := nameSet{}
	work := held(s)
	for len(work) > 0 {
		name := work[0]
		work = work[1:]
		if ahead.put(name) {
			x, _ := t.Struct(name)
			work = append(work, held(x)...)
		}
	}
	return ahead.has(s.Name)
}

// held: the names of which a struct has something in its fields, not behind a pointer.
func held(s tree.Item) []string {
	var l []string
	for _, f := range s.Fields {
		l = heldBy(f.Type, s.Gen.Types, l)
	}
	return l
}

// heldBy: type parameters hide structs of their names, but what stands in angles behind any name counts.
func heldBy(x tree.Type, hidden, l []string) []string {
	if x.Kind != tree.TName {
		return l
	}
	if !slices.Contains(hidden, x.Name) {
		l = append(l, x.Name)
	}
	for _, part := range x.Args {
		l = heldBy(part, hidden, l)
	}
	return l
}
