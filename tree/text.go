package tree

import (
	"slices"
	"strconv"

	"chattel/lex"
	"chattel/num"
)

// text is tokens, put down one behind the other.
type text struct{ tokens []string }

func (t *text) put(l ...string) { t.tokens = append(t.tokens, l...) }

func (t *text) whole() string { return lex.Put(t.tokens...) }

// list puts each of a list down, with what stands between each two.
func list[T any](t *text, l []T, put func(T), between ...string) {
	for i, x := range l {
		if i > 0 {
			t.put(between...)
		}
		put(x)
	}
}

// angles are lifetimes, then others, unless there are none.
func angles[T any](t *text, lifes []string, l []T, put func(T)) {
	if len(lifes) == 0 && len(l) == 0 {
		return
	}
	t.put("<")
	list(t, lifes, t.name, ",")
	if len(lifes) > 0 && len(l) > 0 {
		t.put(",")
	}
	list(t, l, put, ",")
	t.put(">")
}

func (t *text) name(s string) { t.put(s) }

// maybe: a name that may be left out.
func (t *text) maybe(s string) {
	if s != "" {
		t.put(s)
	}
}

func (t *text) item(x Item) {
	switch x.Kind {
	case IStruct:
		t.put("struct", x.Name)
		angles(t, x.Gen.Lifes, x.Gen.Types, t.name)
		t.put("{")
		list(t, x.Fields, t.param, ",")
		t.put("}")
	case ITrait:
		t.put("trait", x.Name, "{")
		list(t, x.Methods, func(m Method) {
			t.head(m)
			t.put(";")
		})
		t.put("}")
	case IImpl:
		t.put("impl", x.Name, "for", x.Head)
		t.where(x.Where)
		t.put("{")
		list(t, x.Methods, func(m Method) {
			t.head(m)
			t.block(m.Body)
		})
		t.put("}")
	case IFn:
		t.put("fn", x.Name)
		angles(t, x.Gen.Lifes, x.Gen.Types, t.name)
		t.put("(")
		list(t, x.Fields, t.param, ",")
		t.put(")")
		t.typed("->", x.Ret)
		t.where(x.Where)
		t.block(x.Body)
	}
}

func (t *text) head(m Method) {
	t.put("fn", m.Name)
	angles(t, m.Lifes, nil, t.name)
	t.put("(")
	if m.Recv != Own {
		t.put("&")
		t.maybe(m.Life)
	}
	if m.Recv == Unique {
		t.put("mut")
	}
	t.put("self")
	if len(m.Params) > 0 {
		t.put(",")
	}
	list(t, m.Params, t.param, ",")
	t.put(")")
	t.typed("->", m.Ret)
	t.where(m.Where)
}

func (t *text) param(x Param) {
	t.put(x.Name)
	t.typed(":", x.Type)
}

// typed: a type with the mark ahead of it, if one is written.
func (t *text) typed(mark string, x Type) {
	if x.Kind != 0 {
		t.put(mark)
		t.typ(x)
	}
}

func (t *text) where(l []Bound) {
	if len(l) > 0 {
		t.put("where")
	}
	list(t, l, func(b Bound) {
		t.put(b.Name, ":")
		list(t, slices.Concat(b.Traits, b.Lifes), t.name, "+")
	}, ",")
}

func (t *text) typ(x Type) {
	switch x.Kind {
	case TInt:
		t.put("int")
	case TBool:
		t.put("bool")
	case TFloat:
		t.put("f64")
	case TUnit:
		t.put("(", ")")
	case TName:
		t.put(x.Name)
		angles(t, x.Lifes, x.Args, t.typ)
	case TBox:
		t.put("Box", "<")
		list(t, x.Args, t.typ, ",")
		t.put(">")
	case TRef:
		t.put("&")
		t.maybe(x.Life)
		if x.Mut {
			t.put("mut")
		}
		list(t, x.Args, t.typ, ",")
	case TDyn:
		t.put("dyn", x.Name)
		if x.Life != "" {
			t.put("+", x.Life)
		}
	}
}

func (t *text) block(l []Stmt) {
	t.put("{")
	list(t, l, t.stmt)
	t.put("}")
}

func (t *text) stmt(s Stmt) {
	switch s.Kind {
	case SLet:
		t.put("let", s.Name)
		t.typed(":", s.Type)
		if len(s.E) > 0 {
			t.put("=")
		}
		t.exprs(s.E)
		t.put(";")
	case SSet:
		t.exprs(s.Place)
		t.put("=")
		t.exprs(s.E)
		t.put(";")
	case SExpr:
		t.exprs(s.E)
		t.put(";")
	case SIf:
		t.put("if")
		t.exprs(s.E)
		t.block(s.Body)
		if s.Other {
			t.put("else")
			t.block(s.Else)
		}
	case SWhile:
		t.put("while")
		t.exprs(s.E)
		t.block(s.Body)
	case SReturn:
		t.put("return")
		t.exprs(s.E)
		t.put(";")
	case SAbort:
		t.put("abort", ";")
	case SBlock:
		t.block(s.Body)
	}
}

func (t *text) exprs(l []Expr) { list(t, l, t.expr, ",") }

// part: one of an expression's parts, if it is there.
func (t *text) part(e Expr, i int) {
	if i < len(e.Args) {
		t.expr(e.Args[i])
	}
}

func (t *text) expr(e Expr) {
	switch e.Kind {
	case EInt:
		t.put(num.Dec(int64(e.Val &^ (1 << 63))))
	case EBool:
		t.put(strconv.FormatBool(e.Val == 1))
	case EFloat:
		t.put("0f" + num.Hex(e.Val))
	case EUnit:
		t.put("(", ")")
	case EVar:
		t.put(e.Name)
	case EChoose:
		t.put("choose")
	case EField:
		t.part(e, 0)
		t.put(".", e.Name)
	case EMethod:
		t.part(e, 0)
		t.put(".", e.Name)
		t.args(e.Args[min(1, len(e.Args)):])
	case ECall:
		t.put(e.Name)
		t.args(e.Args)
	case EStruct:
		t.fields(e)
	case EClosure:
		t.put("as", e.Name, "|")
		list(t, e.Names, t.name, ",")
		t.put("|")
		t.block(e.Body)
	default:
		t.operator(e)
	}
}

// operator: the expressions that are one or two parts with marks, or words, about them.
func (t *text) operator(e Expr) {
	switch e.Kind {
	case EDeref:
		t.put("*")
		t.part(e, 0)
	case ERef:
		t.put("&")
		if e.Mut {
			t.put("mut")
		}
		t.part(e, 0)
	case EUn:
		t.put(e.Name)
		t.part(e, 0)
	case EBin:
		t.part(e, 0)
		t.put(e.Name)
		t.part(e, 1)
	case EBox:
		t.put("Box")
		t.paren(e)
	case EUnbox:
		t.put("unbox")
		t.paren(e)
	case EParen:
		t.paren(e)
	}
}

func (t *text) paren(e Expr) {
	t.put("(")
	t.part(e, 0)
	t.put(")")
}

func (t *text) args(l []Expr) {
	t.put("(")
	t.exprs(l)
	t.put(")")
}

func (t *text) fields(e Expr) {
	t.put("new", e.Name, "{")
	names := e.Names
	list(t, e.Args[:min(len(e.Names), len(e.Args))], func(x Expr) {
		t.put(names[0], ":")
		t.expr(x)
		names = names[1:]
	}, ",")
	t.put("}")
}
