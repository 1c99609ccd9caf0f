package heap

import (
	"cmp"
	"slices"
)

// cell is an allocation: its memory is shared with nobody.
type cell struct {
	value Value
	stack []Item // the oldest right first, so that their Tags rise; none in a heap that doesn't watch
}

func (c *cell) addRight(tag int, path []int, unique bool) {
	c.stack = append(c.stack, Item{Tag: tag, Path: slices.Clone(path), Unique: unique})
}

// oldest: the Tag of the oldest right, that no use ends, as none is below it.
func (c *cell) oldest() int {
	if len(c.stack) == 0 {
		return 0
	}
	return c.stack[0].Tag
}

// use: a use of a pointer by its right ends those above it that forbid it.
func (c *cell) use(p Pointer, writes bool) Fault {
	n, ok := slices.BinarySearchFunc(c.stack, p.Tag, func(r Item, tag int) int { return cmp.Compare(r.Tag, tag) })
	if !ok || !begins(c.stack[n].Path, p.Path) || writes && !c.stack[n].Unique {
		return Tag
	}
	above := slices.DeleteFunc(c.stack[n+1:], func(r Item) bool {
		return (writes || r.Unique) && (begins(r.Path, p.Path) || begins(p.Path, r.Path))
	})
	c.stack = c.stack[:n+1+len(above)]
	return None
}

func (c *cell) rights() []Item {
	l := make([]Item, len(c.stack))
	for i, r := range c.stack {
		l[i] = Item{Tag: r.Tag, Path: slices.Clone(r.Path), Unique: r.Unique}
	}
	return l
}

// begins: is one path the beginning of another one?
func begins(a, b []int) bool { return len(a) <= len(b) && slices.Equal(a, b[:len(a)]) }

// part: the part of a value that a path tells.
func part(v *Value, path []int) (*Value, Fault) {
	for _, n := range path {
		if v.Kind == Void {
			return nil, Empty
		}
		if v.Kind != Struct || n < 0 || n >= len(v.Parts) {
			return nil, Shape
		}
		v = &v.Parts[n]
	}
	return v, None
}

// whole: is no Void in a value?
func whole(v Value) bool {
	return v.Kind != Void && !slices.ContainsFunc(v.Parts, func(x Value) bool { return !whole(x) })
}

// clone: the same value in new memory.
func clone(v Value) Value {
	v.To.Path = slices.Clone(v.To.Path)
	if len(v.Parts) == 0 {
		v.Parts = nil // an empty list may have spare room that is another's
		return v
	}
	l := make([]Value, len(v.Parts))
	for i, x := range v.Parts {
		l[i] = clone(x)
	}
	v.Parts = l
	return v
}

// addBackward puts values on a list from which the last one is taken first.
func addBackward(l, parts []Value) []Value {
	for _, x := range slices.Backward(parts) {
		l = append(l, x)
	}
	return l
}
