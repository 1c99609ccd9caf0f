package parse_test

import (
	"testing"

	"chattel/api"
	"chattel/lex"
	"chattel/num"
	"chattel/tree"
)

// checker holds a tree against the tokens that it was read from: each stands in it once, in order, and each part is at the token that the document names. With the shapes that the levels of operators leave, no other tree has these tokens.
type checker struct {
	t    *testing.T
	text string
	list []lex.Token
	next int
}

// hold begins with all tokens of a text.
func hold(t *testing.T, text string) *checker {
	l, e := lex.All(text)
	if e != (api.Err{}) {
		t.Fatalf("%q: %v", text, e)
	}
	return &checker{t: t, text: text, list: l}
}

func (c *checker) bad(what string) {
	c.t.Helper()
	c.t.Fatalf("%q, at token %d: %s", c.text, c.next, what)
}

func (c *checker) token(texts ...string) {
	for _, s := range texts {
		if x := c.list[c.next]; x.Text != s || x.Kind == lex.End {
			c.bad("not " + s)
		}
		c.next++
	}
}

// here: a part is at the next token.
func (c *checker) here(at api.Pos) {
	if c.list[c.next].At != at {
		c.bad("another place")
	}
}

func (c *checker) end() {
	if c.list[c.next].Kind != lex.End {
		c.bad("not the end")
	}
}

func (c *checker) names(n *int, l []string, between string) {
	for _, s := range l {
		if *n > 0 {
			c.token(between)
		}
		*n++
		c.token(s)
	}
}

func (c *checker) items(l []tree.Item) {
	for _, x := range l {
		c.item(x)
	}
	c.end()
}

func (c *checker) item(x tree.Item) {
	c.here(x.At)
	switch x.Kind {
	case tree.IStruct:
		c.token("struct", x.Name)
		c.gen(x.Gen)
		c.token("{")
		c.params(x.Fields)
		c.token("}")
	case tree.ITrait, tree.IImpl:
		if x.Kind == tree.ITrait {
			c.token("trait", x.Name)
		} else {
			c.token("impl", x.Name, "for", x.Head)
		}
		c.where(x.Where)
		c.token("{")
		for _, m := range x.Methods {
			c.head(m)
			if x.Kind == tree.IImpl {
				c.block(m.Body)
			} else {
				c.token(";")
			}
		}
		c.token("}")
	case tree.IFn:
		c.token("fn", x.Name)
		c.gen(x.Gen)
		c.token("(")
		c.params(x.Fields)
		c.token(")")
		c.ret(x.Ret)
		c.where(x.Where)
		c.block(x.Body)
	default:
		c.bad("kind")
	}
}

func (c *checker) head(m tree.Method) {
	c.here(m.At)
	c.token("fn", m.Name)
	c.gen(tree.Generics{Lifes: m.Lifes})
	c.token("(")
	if m.Recv == tree.Shared || m.Recv == tree.Unique {
		c.token("&")
		if m.Life != "" {
			c.token(m.Life)
		}
	}
	if m.Recv == tree.Unique {
		c.token("mut")
	}
	c.token("self")
	if len(m.Params) > 0 {
		c.token(",")
	}
	c.params(m.Params)
	c.token(")")
	c.ret(m.Ret)
	c.where(m.Where)
}

func (c *checker) gen(g tree.Generics) {
	if len(g.Lifes)+len(g.Types) > 0 {
		n := 0
		c.token("<")
		c.names(&n, g.Lifes, ",")
		c.names(&n, g.Types, ",")
		c.token(">")
	}
}

func (c *checker) params(l []tree.Param) {
	for i, x := range l {
		if i > 0 {
			c.token(",")
		}
		c.here(x.At)
		c.token(x.Name, ":")
		c.typ(x.Type)
	}
}

func (c *checker) ret(x tree.Type) {
	if x.Kind == 0 {
		c.none(x)
		return
	}
	c.token("->")
	c.typ(x)
}

// none: nothing is told of a type that isn't written.
func (c *checker) none(x tree.Type) {
	if x.Name != "" || x.Life != "" || x.Mut || x.Lifes != nil || x.Args != nil || x.At != (api.Pos{}) {
		c.bad("a type that isn't written")
	}
}

func (c *checker) where(l []tree.Bound) {
	for i, b := range l {
		c.token([]string{"where", ","}[min(i, 1)])
		c.here(b.At)
		c.token(b.Name, ":")
		n := 0
		c.names(&n, b.Traits, "+")
		c.names(&n, b.Lifes, "+")
	}
}

func (c *checker) typ(x tree.Type) {
	c.here(x.At)
	switch x.Kind {
	case tree.TInt:
		c.token("int")
	case tree.TBool:
		c.token("bool")
	case tree.TFloat:
		c.token("f64")
	case tree.TUnit:
		c.token("(", ")")
	case tree.TName:
		c.token(x.Name)
		n := 0
		if len(x.Lifes)+len(x.Args) > 0 {
			c.token("<")
			c.names(&n, x.Lifes, ",")
			for _, y := range x.Args {
				if n > 0 {
					c.token(",")
				}
				n++
				c.typ(y)
			}
			c.token(">")
		}
	case tree.TBox:
		c.token("Box", "<")
		c.typ(x.Args[0])
		c.token(">")
	case tree.TRef:
		c.token("&")
		if x.Life != "" {
			c.token(x.Life)
		}
		if x.Mut {
			c.token("mut")
		}
		c.typ(x.Args[0])
	case tree.TDyn:
		c.token("dyn", x.Name)
		if x.Life != "" {
			c.token("+", x.Life)
		}
	default:
		c.bad("kind")
	}
}

func (c *checker) block(l []tree.Stmt) {
	c.token("{")
	for _, s := range l {
		c.stmt(s)
	}
	c.token("}")
}

// one: an expression that must be there.
func (c *checker) one(l []tree.Expr) {
	if len(l) != 1 {
		c.bad("not one expression")
	}
	c.expr(l[0], 0)
}

func (c *checker) stmt(s tree.Stmt) {
	c.here(s.At)
	switch s.Kind {
	case tree.SLet:
		c.token("let", s.Name)
		if s.Type.Kind != 0 {
			c.token(":")
			c.typ(s.Type)
		}
		if len(s.E) > 0 {
			c.token("=")
			c.one(s.E)
		}
	case tree.SSet:
		c.one(s.Place)
		c.token("=")
		c.one(s.E)
	case tree.SExpr:
		c.one(s.E)
	case tree.SIf:
		c.token("if")
		c.one(s.E)
		c.block(s.Body)
		if s.Other {
			c.token("else")
			c.block(s.Else)
		}
		return
	case tree.SWhile:
		c.token("while")
		c.one(s.E)
		c.block(s.Body)
		return
	case tree.SReturn:
		c.token("return")
		if len(s.E) > 0 {
			c.one(s.E)
		}
	case tree.SAbort:
		c.token("abort")
	case tree.SBlock:
		c.block(s.Body)
		return
	default:
		c.bad("kind")
	}
	c.token(";")
}

// binds tells how close an expression binds: | 0, && 1, comparing 2, + 3, * 4, marks ahead of one 5, all else 6.
func binds(e tree.Expr) int {
	switch e.Kind {
	case tree.EBin:
		return map[string]int{"|": 0, "&&": 1, "==": 2, "<": 2, "+": 3, "-": 3, "*": 4, "/": 4}[e.Name]
	case tree.EUn, tree.EDeref, tree.ERef:
		return 5
	}
	return 6
}

// expr: an expression that must bind as close as told.
func (c *checker) expr(e tree.Expr, close int) {
	n := binds(e)
	if n < close {
		c.bad("binds less close")
	}
	switch e.Kind {
	case tree.EBin:
		left := n
		if n == 2 { // comparing stands alone
			left = 3
		}
		c.expr(e.Args[0], left)
		c.here(e.At)
		c.token(e.Name)
		c.expr(e.Args[1], n+1)
		c.count(e, 2)
	case tree.EField, tree.EMethod:
		c.expr(e.Args[0], 6)
		c.here(e.At)
		c.token(".", e.Name)
		if e.Kind == tree.EMethod {
			c.args(e.Args[1:])
		} else {
			c.count(e, 1)
		}
	case tree.EUn, tree.EDeref, tree.ERef:
		c.here(e.At)
		c.token(map[int]string{tree.EUn: e.Name, tree.EDeref: "*", tree.ERef: "&"}[e.Kind])
		if e.Mut {
			c.token("mut")
		}
		c.expr(e.Args[0], 5)
		c.count(e, 1)
	default:
		c.here(e.At)
		c.primary(e)
	}
}

func (c *checker) count(e tree.Expr, n int) {
	if len(e.Args) != n {
		c.bad("other parts")
	}
}

func (c *checker) args(l []tree.Expr) {
	c.token("(")
	for i, x := range l {
		if i > 0 {
			c.token(",")
		}
		c.expr(x, 0)
	}
	c.token(")")
}

func (c *checker) primary(e tree.Expr) {
	switch e.Kind {
	case tree.EInt:
		c.token(num.Dec(int64(e.Val)))
	case tree.EBool:
		c.token([]string{"false", "true"}[e.Val])
	case tree.EFloat:
		c.token("0f" + num.Hex(e.Val))
	case tree.EUnit:
		c.token("(", ")")
	case tree.EVar:
		c.token(e.Name)
	case tree.EChoose:
		c.token("choose")
	case tree.EBox, tree.EUnbox, tree.EParen:
		if e.Kind != tree.EParen {
			c.token(map[int]string{tree.EBox: "Box", tree.EUnbox: "unbox"}[e.Kind])
		}
		c.count(e, 1)
		c.args(e.Args)
	case tree.EStruct:
		c.token("new", e.Name, "{")
		c.count(e, len(e.Names))
		for i, s := range e.Names {
			if i > 0 {
				c.token(",")
			}
			c.token(s, ":")
			c.expr(e.Args[i], 0)
		}
		c.token("}")
	case tree.ECall:
		c.token(e.Name)
		c.args(e.Args)
	case tree.EClosure:
		n := 0
		c.token("as", e.Name, "|")
		c.names(&n, e.Names, ",")
		c.token("|")
		c.block(e.Body)
	default:
		c.bad("kind")
	}
}
