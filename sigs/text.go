package sigs

import (
	"strconv"
	"strings"

	"chattel/num"
	"chattel/types"
)

// text is words, put down one behind the other. Names stand in quotes and lists in brackets, so unlike heads never come to one text.
type text struct{ words []string }

func (t *text) put(l ...string) { t.words = append(t.words, l...) }

func (t *text) whole() string { return strings.Join(t.words, " ") }

func (t *text) name(s string) { t.put(strconv.Quote(s)) }

func (t *text) number(n int) { t.put(num.Dec(int64(n))) }

func list[T any](t *text, l []T, put func(T)) {
	t.put("[")
	for _, x := range l {
		put(x)
	}
	t.put("]")
}

// SigText: a signature's text.
func SigText(s Sig) string {
	t := &text{}
	t.sig(s)
	return t.whole()
}

// MethodText: a method's text.
func MethodText(m Method) string {
	t := &text{}
	t.method(m)
	return t.whole()
}

// Text: all heads' texts.
func (e *Env) Text() string {
	t := &text{}
	list(t, e.orNone().Structs, t.structHead)
	list(t, e.orNone().Traits, func(x Trait) {
		t.put("trait")
		t.name(x.Name)
		list(t, x.Methods, t.method)
	})
	list(t, e.orNone().Impls, func(x Impl) {
		t.put("impl")
		t.name(x.Trait)
		t.name(x.Head)
		list(t, x.Bounds, t.bound)
		list(t, x.Methods, t.method)
	})
	list(t, e.orNone().Fns, func(x Fn) {
		t.put("fn")
		t.name(x.Name)
		t.sig(x.Sig)
	})
	return t.whole()
}

func (t *text) structHead(x Struct) {
	t.put("struct")
	t.name(x.Name)
	t.number(x.Lifes)
	list(t, x.Types, t.name)
	list(t, x.Fields, func(f Field) {
		t.name(f.Name)
		t.typ(f.Type)
	})
}

func (t *text) method(m Method) {
	t.put("method")
	t.name(m.Name)
	t.number(m.Recv)
	t.number(m.Life)
	t.sig(m.Sig)
}

func (t *text) sig(s Sig) {
	t.number(s.Lifes)
	list(t, s.Types, t.name)
	list(t, s.Outs, func(p [2]int) {
		t.number(p[0])
		t.number(p[1])
	})
	list(t, s.Bounds, t.bound)
	list(t, s.Params, t.typ)
	t.typ(s.Ret)
}

func (t *text) bound(b Bound) {
	t.name(b.Type)
	t.name(b.Trait)
}

// typ: all that stands in a type, also what its kind doesn't have: layer 7's Text leaves that out.
func (t *text) typ(x types.Type) {
	t.number(x.Kind)
	t.name(x.Name)
	if x.Mut {
		t.put("mut")
	}
	t.number(x.Region)
	list(t, x.Regions, t.number)
	list(t, x.Args, t.typ)
}
