package names

import (
	"chattel/api"
	"chattel/tree"
)

// checker tells what is wrong with items, one behind the other.
type checker struct {
	t    *Table
	errs []api.Err
}

func (c *checker) tell(code api.Errno, at api.Pos) {
	c.errs = append(c.errs, api.Err{Code: code, At: at})
}

// nameSet is names that stood ahead, each with how often it did.
type nameSet map[string]int

func (l nameSet) has(s string) bool { return l[s] > 0 }

// put: false: the name stood ahead already.
func (l nameSet) put(s string) bool {
	l[s]++
	return l[s] == 1
}

// unlike takes names in that must be unlike each other and those ahead: Twice for each that isn't.
func (c *checker) unlike(ahead nameSet, at api.Pos, l ...string) {
	for _, s := range l {
		if !ahead.put(s) {
			c.tell(api.Twice, at)
		}
	}
}

// scope is what is declared where a type, or a bound, stands.
type scope struct {
	lifes, types nameSet
	field        bool // it is a struct's field, where no lifetime may be left out
}

// declared: 'static is there everywhere.
func declared(lifes, types []string) scope {
	s := scope{lifes: nameSet{Static: 1}, types: nameSet{}}
	for _, x := range lifes {
		s.lifes.put(x)
	}
	for _, x := range types {
		s.types.put(x)
	}
	return s
}

func (c *checker) item(x tree.Item) {
	switch x.Kind {
	case tree.IStruct:
		s := c.generics(x)
		s.field = true
		c.params(x.Fields, s)
	case tree.ITrait:
		c.methods(x.Methods, tree.Generics{})
	case tree.IImpl:
		c.impl(x)
	case tree.IFn:
		s := c.generics(x)
		c.params(x.Fields, s)
		c.typ(x.Ret, s)
		c.bounds(x.Where, s)
	}
}

// generics: what an item declares.
func (c *checker) generics(x tree.Item) scope {
	s := declared(nil, nil)
	c.unlike(s.lifes, x.At, x.Gen.Lifes...)
	c.unlike(s.types, x.At, x.Gen.Types...)
	for _, p := range x.Gen.Types {
		if _, ok := c.t.Struct(p); ok {
			c.tell(api.Twice, x.At)
		}
	}
	return s
}

func (c *checker) params(l []tree.Param, s scope) {
	ahead := nameSet{}
	for _, p := range l {
		c.unlike(ahead, p.At, p.Name)
		c.typ(p.Type, s)
	}
}

// methods: heads, among the generics of what they are of.
func (c *checker) methods(l []tree.Method, g tree.Generics) {
	ahead := nameSet{}
	for _, m := range l {
		c.unlike(ahead, m.At, m.Name)
		c.method(m, declared(g.Lifes, g.Types))
	}
}

func (c *checker) method(m tree.Method, s scope) {
	c.unlike(s.lifes, m.At, m.Lifes...)
	c.maybeLife(m.Life, m.At, s)
	c.params(m.Params, s)
	c.typ(m.Ret, s)
	s.types = nil // an impl's type parameters are bound at the impl, not at its methods
	c.bounds(m.Where, s)
}

func (c *checker) impl(x tree.Item) {
	g, ok := c.t.Of(x.Head)
	if !ok {
		c.tell(api.Unknown, x.At)
	}
	for _, b := range x.Where {
		if len(b.Lifes) > 0 {
			c.tell(api.Life, b.At)
		}
	}
	c.bounds(x.Where, declared(nil, g.Types))
	c.methods(x.Methods, g)
	trait, ok := c.t.Trait(x.Name)
	if !ok {
		c.tell(api.Unknown, x.At)
		return
	}
	c.asAsked(x, trait)
}

// asAsked: an impl has the methods that its trait asks for, and those alone.
func (c *checker) asAsked(x, trait tree.Item) {
	for _, m := range x.Methods {
		asked, ok := Method(trait, m.Name)
		switch {
		case !ok:
			c.tell(api.Unknown, m.At)
		case m.Recv != asked.Recv || len(m.Params) != len(asked.Params):
			c.tell(api.Kind, m.At)
		}
	}
	for _, asked := range trait.Methods {
		if _, ok := Method(x, asked.Name); !ok {
			c.tell(api.Unknown, x.At)
		}
	}
}
