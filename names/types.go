package names

import (
	"strings"

	"chattel/api"
	"chattel/tree"
)

// life: a lifetime that is written must be there.
func (c *checker) life(name string, at api.Pos, s scope) {
	if !s.lifes.has(name) {
		c.tell(api.Life, at)
	}
}

// maybeLife: likewise, where it may be left out.
func (c *checker) maybeLife(name string, at api.Pos, s scope) {
	if name != "" {
		c.life(name, at, s)
	}
}

func (c *checker) lifes(l []string, at api.Pos, s scope) {
	for _, name := range l {
		c.life(name, at, s)
	}
}

func (c *checker) trait(name string, at api.Pos) {
	if _, ok := c.t.Trait(name); !ok {
		c.tell(api.Unknown, at)
	}
}

// typ: a type that no pointer stands right ahead of.
func (c *checker) typ(x tree.Type, s scope) { c.typeBehind(x, s, false) }

func (c *checker) typeBehind(x tree.Type, s scope, pointer bool) {
	switch x.Kind {
	case tree.TRef:
		if x.Life == "" && s.field {
			c.tell(api.Life, x.At)
		}
		c.maybeLife(x.Life, x.At, s)
		c.parts(x, s, true)
	case tree.TBox:
		c.parts(x, s, true)
	case tree.TDyn:
		if !pointer {
			c.tell(api.Kind, x.At)
		}
		c.trait(x.Name, x.At)
		c.maybeLife(x.Life, x.At, s)
	case tree.TName:
		c.lifes(x.Lifes, x.At, s)
		c.parts(x, s, false)
		c.named(x, s)
	}
}

func (c *checker) parts(x tree.Type, s scope, pointer bool) {
	for _, part := range x.Args {
		c.typeBehind(part, s, pointer)
	}
}

// named: what is wrong with a name itself, whatever is wrong with what stands in its angles.
func (c *checker) named(x tree.Type, s scope) {
	if s.types.has(x.Name) {
		if len(x.Lifes)+len(x.Args) > 0 {
			c.tell(api.Kind, x.At)
		}
		return
	}
	of, ok := c.t.Struct(x.Name)
	switch {
	case !ok:
		c.tell(api.Unknown, x.At)
	case len(x.Args) != len(of.Gen.Types), !lifesFit(x, of, s.field):
		c.tell(api.Kind, x.At)
	}
}

// lifesFit: outside of a struct's fields a struct's lifetimes may be left out, but all of them.
func lifesFit(x tree.Type, of tree.Item, field bool) bool {
	return len(x.Lifes) == len(of.Gen.Lifes) || len(x.Lifes) == 0 && !field
}

func (c *checker) bounds(l []tree.Bound, s scope) {
	for _, b := range l {
		if strings.HasPrefix(b.Name, "'") {
			c.life(b.Name, b.At, s)
		} else if !s.types.has(b.Name) {
			c.tell(api.Unknown, b.At)
		}
		for _, name := range b.Traits {
			c.trait(name, b.At)
		}
		c.lifes(b.Lifes, b.At, s)
	}
}
