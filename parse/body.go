package parse

import (
	"chattel/api"
	"chattel/lex"
	"chattel/tree"
)

func (p *parser) block() []tree.Stmt {
	return deeper(p, func() (l []tree.Stmt) {
		p.Need("{")
		for !p.Is("}") {
			l = append(l, p.stmt())
		}
		return l
	})
}

func (p *parser) stmt() tree.Stmt {
	s := tree.Stmt{At: p.At()}
	switch {
	case p.Sees("{"):
		s.Kind, s.Body = tree.SBlock, p.block()
	case p.Is("if"):
		s.Kind, s.E, s.Body = tree.SIf, p.one(), p.block()
		if p.Is("else") {
			s.Other, s.Else = true, p.block()
		}
	case p.Is("while"):
		s.Kind, s.E, s.Body = tree.SWhile, p.one(), p.block()
	default:
		p.plain(&s)
		p.Need(";")
	}
	return s
}

// plain: the statements that a ; ends.
func (p *parser) plain(s *tree.Stmt) {
	switch {
	case p.Is("let"):
		s.Kind, s.Name = tree.SLet, p.Name()
		if p.Is(":") {
			s.Type = p.typ()
		}
		if p.Is("=") {
			s.E = p.one()
		}
	case p.Is("return"):
		s.Kind = tree.SReturn
		if !p.Sees(";") {
			s.E = p.one()
		}
	case p.Is("abort"):
		s.Kind = tree.SAbort
	default:
		s.Kind, s.E = tree.SExpr, p.one()
		if p.Is("=") {
			s.Kind, s.Place, s.E = tree.SSet, s.E, p.one()
		}
	}
}

// one: an expression, as a list of it.
func (p *parser) one() []tree.Expr { return []tree.Expr{p.expr()} }

// levels are the operators between two parts, those that bind least first.
var levels = [5][2]string{{"|"}, {"&&"}, {"==", "<"}, {"+", "-"}, {"*", "/"}}

// comparing is the level of which no operator stands behind another one.
const comparing = 2

func (p *parser) expr() tree.Expr { return p.level(0) }

// level: operators of a level, and all that binds closer.
func (p *parser) level(n int) tree.Expr {
	if n == len(levels) {
		return p.unary()
	}
	e := p.level(n + 1)
	for {
		at, op := p.At(), p.operator(n)
		if op == "" {
			return e
		}
		e = tree.Expr{Kind: tree.EBin, Name: op, Args: []tree.Expr{e, p.level(n + 1)}, At: at}
		if n == comparing {
			return e
		}
	}
}

// operator: the next token, if it is one of that level; "": it is none.
func (p *parser) operator(n int) string {
	for _, op := range levels[n] {
		if op != "" && p.Is(op) {
			return op
		}
	}
	return ""
}

func (p *parser) unary() tree.Expr { return deeper(p, p.unaryHere) }

func (p *parser) unaryHere() tree.Expr {
	e := tree.Expr{At: p.At()}
	switch {
	case p.Is("*"):
		e.Kind = tree.EDeref
	case p.Is("&"):
		e.Kind, e.Mut = tree.ERef, p.Is("mut")
	case p.Sees("-"), p.Sees("!"):
		e.Kind, e.Name = tree.EUn, p.Next().Text
	default:
		return p.postfix()
	}
	e.Args = []tree.Expr{p.unary()}
	return e
}

func (p *parser) postfix() tree.Expr {
	e := p.primary()
	for at := p.At(); p.Is("."); at = p.At() {
		x := tree.Expr{Kind: tree.EField, At: at, Name: p.Name(), Args: []tree.Expr{e}}
		if p.Is("(") {
			x.Kind, x.Args = tree.EMethod, append(x.Args, p.args()...)
		}
		e = x
	}
	return e
}

func (p *parser) args() []tree.Expr { return list(p, ")", api.MaxParams, p.expr) }

func (p *parser) primary() tree.Expr {
	e := tree.Expr{At: p.At()}
	kind := p.Peek().Kind
	switch {
	case kind == lex.Int:
		e.Kind, e.Val = tree.EInt, p.Next().Val
	case kind == lex.Float:
		e.Kind, e.Val = tree.EFloat, p.Next().Val
	case p.Is("true"):
		e.Kind, e.Val = tree.EBool, 1
	case p.Is("false"):
		e.Kind = tree.EBool
	case p.Is("choose"):
		e.Kind = tree.EChoose
	case p.Is("Box"):
		p.Need("(")
		e.Kind, e.Args = tree.EBox, p.closed()
	case p.Is("unbox"):
		p.Need("(")
		e.Kind, e.Args = tree.EUnbox, p.closed()
	case p.Is("("):
		e.Kind = tree.EUnit
		if !p.Is(")") {
			e.Kind, e.Args = tree.EParen, p.closed()
		}
	case p.Is("new"):
		p.construct(&e)
	case p.Is("as"):
		p.closure(&e)
	default:
		p.named(&e)
	}
	return e
}

// closed: an expression, and the parenthesis that closes it.
func (p *parser) closed() []tree.Expr {
	l := p.one()
	p.Need(")")
	return l
}

func (p *parser) construct(e *tree.Expr) {
	e.Kind, e.Name = tree.EStruct, p.Name()
	p.Need("{")
	p.upTo("}", api.MaxFields, func() {
		e.Names = append(e.Names, p.Name())
		p.Need(":")
		e.Args = append(e.Args, p.expr())
	})
}

func (p *parser) closure(e *tree.Expr) {
	e.Kind, e.Name = tree.EClosure, p.Name()
	p.Need("|")
	e.Names = list(p, "|", api.MaxParams, p.Name)
	e.Body = p.block()
}

func (p *parser) named(e *tree.Expr) {
	e.Kind = tree.EVar
	if p.Is("self") {
		e.Name = "self"
		return
	}
	e.Name = p.Name()
	if p.Is("(") {
		e.Kind, e.Args = tree.ECall, p.args()
	}
}
