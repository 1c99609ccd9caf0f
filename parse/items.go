package parse

import (
	"chattel/api"
	"chattel/tree"
)

// maxBounds is how many bounds one where may have.
const maxBounds = 16

func (p *parser) program() (l []tree.Item) {
	for !p.ends() {
		if len(l) == api.MaxItems {
			p.Fail(api.Limit)
		}
		l = append(l, p.item())
	}
	return l
}

func (p *parser) item() tree.Item {
	at := p.At()
	var x tree.Item
	switch {
	case p.Is("struct"):
		x = p.structure()
	case p.Is("trait"):
		x = p.trait()
	case p.Is("impl"):
		x = p.impl()
	case p.Is("fn"):
		x = p.function()
	default:
		p.Fail(api.Syntax)
	}
	x.At = at
	return x
}

func (p *parser) structure() tree.Item {
	x := tree.Item{Kind: tree.IStruct, Name: p.Name()}
	x.Gen = p.gen()
	p.Need("{")
	x.Fields = list(p, "}", api.MaxFields, p.param)
	return x
}

func (p *parser) trait() tree.Item {
	x := tree.Item{Kind: tree.ITrait, Name: p.Name()}
	x.Methods = p.methods(func(m *tree.Method) { p.Need(";") })
	return x
}

func (p *parser) impl() tree.Item {
	x := tree.Item{Kind: tree.IImpl, Name: p.Name()}
	p.Need("for")
	x.Head = p.implHead()
	x.Where = p.where()
	x.Methods = p.methods(func(m *tree.Method) { m.Body = p.block() })
	return x
}

func (p *parser) implHead() string {
	if p.Sees("int") || p.Sees("bool") || p.Sees("f64") {
		return p.Next().Text
	}
	return p.Name()
}

func (p *parser) function() tree.Item {
	x := tree.Item{Kind: tree.IFn, Name: p.Name()}
	x.Gen = p.gen()
	p.Need("(")
	x.Fields = list(p, ")", api.MaxParams, p.param)
	x.Ret = p.ret()
	x.Where = p.where()
	x.Body = p.block()
	return x
}

// methods: heads in braces, each with what stands behind it.
func (p *parser) methods(behind func(*tree.Method)) (l []tree.Method) {
	p.Need("{")
	for !p.Is("}") {
		if len(l) == api.MaxFields {
			p.Fail(api.Limit)
		}
		m := p.head()
		behind(&m)
		l = append(l, m)
	}
	return l
}

func (p *parser) head() tree.Method {
	m := tree.Method{At: p.At(), Recv: tree.Own}
	p.Need("fn")
	m.Name = p.Name()
	g := p.gen()
	if len(g.Types) > 0 {
		p.Fail(api.Kind)
	}
	m.Lifes = g.Lifes
	p.Need("(")
	if p.Is("&") {
		m.Recv, m.Life = tree.Shared, p.maybeLife()
		if p.Is("mut") {
			m.Recv = tree.Unique
		}
	}
	p.Need("self")
	if p.Is(",") {
		p.each(api.MaxParams, ",", func() { m.Params = append(m.Params, p.param()) })
	}
	p.Need(")")
	m.Ret = p.ret()
	m.Where = p.where()
	return m
}

func (p *parser) gen() tree.Generics {
	lifes, types := angles(p, p.Name)
	return tree.Generics{Lifes: lifes, Types: types}
}

func (p *parser) param() tree.Param {
	x := tree.Param{At: p.At(), Name: p.Name()}
	p.Need(":")
	x.Type = p.typ()
	return x
}

func (p *parser) ret() tree.Type {
	if !p.Is("->") {
		return tree.Type{}
	}
	return p.typ()
}

func (p *parser) where() (l []tree.Bound) {
	if p.Is("where") {
		p.each(maxBounds, ",", func() { l = append(l, p.bound()) })
	}
	return l
}

// bound: a lifetime is bound by lifetimes alone, and a type parameter by traits, then by lifetimes.
func (p *parser) bound() tree.Bound {
	b := tree.Bound{At: p.At()}
	traits := !p.seesLife()
	if traits {
		b.Name = p.Name()
	} else {
		b.Name = p.life()
	}
	p.Need(":")
	p.each(api.MaxParams, "+", func() {
		if traits && !p.seesLife() {
			b.Traits = append(b.Traits, p.Name())
			return
		}
		traits = false
		b.Lifes = append(b.Lifes, p.life())
	})
	return b
}
