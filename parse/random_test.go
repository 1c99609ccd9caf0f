package parse_test

import (
	"reflect"
	"slices"
	"strings"
	"testing"

	"chattel/api"
	"chattel/lex"
	"chattel/parse"
	"chattel/tree"
)

// spell writes tokens as a text, and where each begins, at last where the text ends.
func (w *writer) spell(tokens []string) (string, []api.Pos) {
	pick := func(l ...string) string { return l[w.Intn(len(l))] }
	text := ""
	var places []api.Pos
	here := func() {
		line := strings.Count(text, "\n")
		places = append(places, api.Pos{Line: line + 1, Col: len(text) - strings.LastIndex(text, "\n")})
	}
	for _, s := range tokens {
		text += pick("", " ", " ", " ", "\n", "\t", "\r\n", " // let\n", "  ")
		if text != "" && !strings.HasSuffix(text, "\n") {
			text += " "
		}
		here()
		switch s {
		case "NAME":
			text += pick("a", "b", "f", "S", "T", "_", "selfx", "structs", strings.Repeat("n", api.MaxName))
		case "LIFE":
			text += pick("'a", "'b", "'static", "'self")
		case "Int":
			text += pick("0", "1", "120", "9223372036854775807")
		case "Float":
			text += pick("0f0000000000000000", "0fffffffffffffffff", "0f3ff0000000000000")
		default:
			text += s
		}
	}
	here()
	return text, places
}

// tokens of a program: some items.
func (w *writer) program() []string {
	var l []string
	for range w.Intn(4) {
		l = append(l, w.sentence("item", 5+w.Intn(25))...)
	}
	return l
}

// spoil changes tokens, so that they may be none of the grammar.
func (w *writer) spoil(l []string) []string {
	all := []string{"NAME", "LIFE", "Int", "Float"}
	all = append(all, strings.Fields("-> == && ( ) { } < > , ; : = & | + - * / ! . struct trait impl for fn where let if else while return abort true false mut dyn int bool f64 self Box unbox choose new as")...)
	l = slices.Clone(l)
	for n := 1 + w.Intn(2); n > 0; n-- {
		i, t := w.Intn(len(l)+1), all[w.Intn(len(all))]
		switch w.Intn(5) {
		case 0:
			l = slices.Insert(l, i, t)
		case 1:
			l = l[:i]
		case 2:
			if i < len(l) {
				l = slices.Delete(l, i, i+1)
			}
		case 3:
			if i < len(l) {
				l[i] = t
			}
		case 4:
			if i+1 < len(l) {
				l[i], l[i+1] = l[i+1], l[i]
			}
		}
	}
	return l
}

// bare is a tree without its places.
func bare[T any](x T) T {
	v := reflect.New(reflect.TypeOf(x)).Elem()
	v.Set(reflect.ValueOf(x))
	return strip(v).Interface().(T)
}

func strip(v reflect.Value) reflect.Value {
	out := reflect.New(v.Type()).Elem()
	switch v.Kind() {
	case reflect.Struct:
		if v.Type() == reflect.TypeFor[api.Pos]() {
			return out
		}
		for i := range v.NumField() {
			out.Field(i).Set(strip(v.Field(i)))
		}
	case reflect.Slice:
		for i := range v.Len() {
			out.Set(reflect.Append(out, strip(v.Index(i))))
		}
	default:
		out.Set(v)
	}
	return out
}

// texts are the texts of a text's tokens.
func texts(t *testing.T, s string) []string {
	l, e := lex.All(s)
	if e != (api.Err{}) {
		t.Fatalf("%q: %v", s, e)
	}
	var out []string
	for _, x := range l {
		out = append(out, x.Text)
	}
	return out
}

// lost: P4.2 for a text and what was read from it.
func lost[T any](t *testing.T, text, printed string, x T, read func(string) (T, api.Err)) {
	if !slices.Equal(texts(t, text), texts(t, printed)) {
		t.Fatalf("%q is printed as %q", text, printed)
	}
	if y, e := read(printed); e != (api.Err{}) || !reflect.DeepEqual(bare(x), bare(y)) {
		t.Fatalf("%q: %v", printed, e)
	}
}

// seed: of the sentences that the tests write.
const seed = 4

// P4.1, P4.2: all that the grammar writes is read, as what it is, and nothing is lost.
func TestSentences(t *testing.T) {
	w := newWriter(seed)
	for range 3000 {
		text, _ := w.spell(w.program())
		l, e := parse.Program(text)
		if e != (api.Err{}) {
			t.Fatalf("%q: %v", text, e)
		}
		hold(t, text).items(l)
		lost(t, text, tree.Print(l), l, parse.Program)
	}
}

// P4.1, P4.2: likewise, of types and expressions alone.
func TestSentencesAlone(t *testing.T) {
	w := newWriter(seed)
	for range 2000 {
		text, _ := w.spell(w.sentence("type", 1+w.Intn(30)))
		x, e := parse.Type(text)
		if e != (api.Err{}) {
			t.Fatalf("%q: %v", text, e)
		}
		c := hold(t, text)
		c.typ(x)
		c.end()
		lost(t, text, tree.PrintType(x), x, parse.Type)
		text, _ = w.spell(w.sentence("expr", 1+w.Intn(30)))
		y, e := parse.Expr(text)
		if e != (api.Err{}) {
			t.Fatalf("%q: %v", text, e)
		}
		c = hold(t, text)
		c.expr(y, 0)
		c.end()
		lost(t, text, tree.PrintExpr(y), y, parse.Expr)
	}
}

// fault is what must be told of tokens: a Syntax at the first one with which nothing goes on; but a Kind behind the angles of a head, where names are in these.
func (w *writer) fault(start string, tokens []string, places []api.Pos) api.Err {
	strict, wide := w.stuck(start, tokens), w.wide.stuck(start, tokens)
	if strict != wide {
		closing := strict + slices.Index(tokens[strict:], ">")
		if wide < 0 || closing >= strict && wide > closing {
			return api.Err{Code: api.Kind, At: places[closing+1]}
		}
	}
	if wide < 0 {
		return api.Err{}
	}
	return api.Err{Code: api.Syntax, At: places[wide]}
}

// told holds what is told of tokens, and that nothing is answered beside it.
func told[T any](t *testing.T, w *writer, start string, tokens []string, read func(string) (T, api.Err)) api.Errno {
	text, places := w.spell(tokens)
	x, e := read(text)
	if want := w.fault(start, tokens, places); e != want {
		t.Fatalf("%q: %v, want %v", text, e, want)
	}
	var none T
	if e != (api.Err{}) && !reflect.DeepEqual(x, none) {
		t.Fatalf("%q: %v beside %v", text, x, e)
	}
	return e.Code
}

// P4.1: a text that isn't of the grammar is told at the token with which nothing goes on.
func TestSpoiled(t *testing.T) {
	w := newWriter(seed)
	n := map[api.Errno]int{}
	for range 6000 {
		n[told(t, w, "program", w.spoil(w.program()), parse.Program)]++
		n[told(t, w, "type", w.spoil(w.sentence("type", 1+w.Intn(20))), parse.Type)]++
		n[told(t, w, "expr", w.spoil(w.sentence("expr", 1+w.Intn(20))), parse.Expr)]++
	}
	if n[api.OK] < 1000 || n[api.Syntax] < 6000 || n[api.Kind] < 1 {
		t.Errorf("too few texts of a sort: %v", n)
	}
}
