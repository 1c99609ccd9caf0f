package lex_test

import (
	"reflect"
	"regexp"
	"strconv"
	"strings"
	"testing"

	"chattel/api"
	"chattel/lex"
)

const words = "struct trait impl for fn where let if else while return abort true false mut dyn int bool f64 self Box unbox choose new as"

func at(line, col int) api.Pos { return api.Pos{Line: line, Col: col} }

func fault(code api.Errno, line, col int) api.Err { return api.Err{Code: code, At: at(line, col)} }

// all is a text's tokens, that must have some.
func all(t *testing.T, s string) []lex.Token {
	t.Helper()
	l, e := lex.All(s)
	if e != (api.Err{}) {
		t.Fatalf("All(%q): %v", s, e)
	}
	return l
}

// bare is tokens without their places.
func bare(l []lex.Token) []lex.Token {
	var out []lex.Token
	for _, x := range l {
		x.At = api.Pos{}
		out = append(out, x)
	}
	return out
}

func texts(l []lex.Token) []string {
	var out []string
	for _, x := range l {
		out = append(out, x.Text)
	}
	return out
}

// P1.1: All, of right texts.
func TestAll(t *testing.T) {
	tests := []struct {
		text string
		want []lex.Token
	}{
		{"", []lex.Token{{lex.End, "", at(1, 1), 0}}},
		{"a->'b 7 // c", []lex.Token{{lex.Name, "a", at(1, 1), 0}, {lex.Mark, "->", at(1, 2), 0}, {lex.Life, "'b", at(1, 4), 0}, {lex.Int, "7", at(1, 7), 7}, {lex.End, "", at(1, 13), 0}}},
		{"fn\n", []lex.Token{{lex.Name, "fn", at(1, 1), 0}, {lex.End, "", at(2, 1), 0}}},
		{"\n\n \t\r x", []lex.Token{{lex.Name, "x", at(3, 5), 0}, {lex.End, "", at(3, 6), 0}}},
		{"a\rb", []lex.Token{{lex.Name, "a", at(1, 1), 0}, {lex.Name, "b", at(1, 3), 0}, {lex.End, "", at(1, 4), 0}}},
		{"// \xff # ' \r b\nc//", []lex.Token{{lex.Name, "c", at(2, 1), 0}, {lex.End, "", at(2, 4), 0}}},
		{"///\n/ /", []lex.Token{{lex.Mark, "/", at(2, 1), 0}, {lex.Mark, "/", at(2, 3), 0}, {lex.End, "", at(2, 4), 0}}},
		{"*//*\n*", []lex.Token{{lex.Mark, "*", at(1, 1), 0}, {lex.Mark, "*", at(2, 1), 0}, {lex.End, "", at(2, 2), 0}}},
		{"_a9Z", []lex.Token{{lex.Name, "_a9Z", at(1, 1), 0}, {lex.End, "", at(1, 5), 0}}},
		{"'a_Z9.", []lex.Token{{lex.Life, "'a_Z9", at(1, 1), 0}, {lex.Mark, ".", at(1, 6), 0}, {lex.End, "", at(1, 7), 0}}},
		{"'a'b", []lex.Token{{lex.Life, "'a", at(1, 1), 0}, {lex.Life, "'b", at(1, 3), 0}, {lex.End, "", at(1, 5), 0}}},
		{"0 10", []lex.Token{{lex.Int, "0", at(1, 1), 0}, {lex.Int, "10", at(1, 3), 10}, {lex.End, "", at(1, 5), 0}}},
		{"9223372036854775807", []lex.Token{{lex.Int, "9223372036854775807", at(1, 1), 1<<63 - 1}, {lex.End, "", at(1, 20), 0}}},
		{"-1", []lex.Token{{lex.Mark, "-", at(1, 1), 0}, {lex.Int, "1", at(1, 2), 1}, {lex.End, "", at(1, 3), 0}}},
		{"0f3ff0000000000000", []lex.Token{{lex.Float, "0f3ff0000000000000", at(1, 1), 0x3ff0000000000000}, {lex.End, "", at(1, 19), 0}}},
		{"0f0123456789abcdef", []lex.Token{{lex.Float, "0f0123456789abcdef", at(1, 1), 0x0123456789abcdef}, {lex.End, "", at(1, 19), 0}}},
		{"0fffffffffffffffff", []lex.Token{{lex.Float, "0fffffffffffffffff", at(1, 1), 1<<64 - 1}, {lex.End, "", at(1, 19), 0}}},
	}
	for _, x := range tests {
		l, e := lex.All(x.text)
		if e != (api.Err{}) || !reflect.DeepEqual(l, x.want) {
			t.Errorf("All(%q) = %v, %v, want %v", x.text, l, e, x.want)
		}
	}
}

// P1.1: the longest run that may be a mark.
func TestMarks(t *testing.T) {
	for _, m := range strings.Fields("-> == && ( ) { } < > , ; : = & | + - * / ! .") {
		l := all(t, m)
		if !reflect.DeepEqual(l, []lex.Token{{lex.Mark, m, at(1, 1), 0}, {lex.End, "", at(1, 1+len(m)), 0}}) {
			t.Errorf("All(%q) = %v", m, l)
		}
	}
	for text, want := range map[string]string{"===": "== =", "====": "== ==", "&&&": "&& &", "-->": "- ->", "->>": "-> >", "- >": "- >", "= =": "= =", "& &": "& &", "<=": "< =", "||": "| |", "!=": "! =", ">->": "> ->"} {
		if got := strings.TrimSpace(strings.Join(texts(all(t, text)), " ")); got != want {
			t.Errorf("All(%q): %q, want %q", text, got, want)
		}
	}
}

// P1.1: All's errors, each at its token's place.
func TestAllErrors(t *testing.T) {
	long := strings.Repeat("a", api.MaxName)
	for _, s := range []string{long, "'" + long} {
		if l := all(t, s); len(l) != 2 || l[0].Text != s {
			t.Errorf("All(%q) = %v", s, l)
		}
	}
	tests := []struct {
		text string
		want api.Err
	}{
		{"\n  " + long + "a", fault(api.Limit, 2, 3)},
		{"x '" + long + "a", fault(api.Limit, 1, 3)},
		{"'", fault(api.Syntax, 1, 1)},
		{"' a", fault(api.Syntax, 1, 1)},
		{"'A", fault(api.Syntax, 1, 1)},
		{"'_a", fault(api.Syntax, 1, 1)},
		{"'1", fault(api.Syntax, 1, 1)},
		{"''a", fault(api.Syntax, 1, 1)},
		{"'A" + long, fault(api.Syntax, 1, 1)},
		{"a \xc3\xa4", fault(api.Syntax, 1, 3)},
		{"a\xff", fault(api.Syntax, 1, 2)},
		{"'a\xff", fault(api.Syntax, 1, 3)},
		{"a # '", fault(api.Syntax, 1, 3)},
		{"1 /* */ @", fault(api.Syntax, 1, 9)},
		{"00", fault(api.Syntax, 1, 1)},
		{" 01", fault(api.Syntax, 1, 2)},
		{"0x1", fault(api.Syntax, 1, 1)},
		{"1a", fault(api.Syntax, 1, 1)},
		{"1_0", fault(api.Syntax, 1, 1)},
		{"1A", fault(api.Syntax, 1, 1)},
		{"9223372036854775808", fault(api.Limit, 1, 1)},
		{"9999999999999999999", fault(api.Limit, 1, 1)},
		{"10000000000000000000", fault(api.Limit, 1, 1)},
		{"18446744073709551617", fault(api.Limit, 1, 1)},
		{"12345678901234567890x", fault(api.Limit, 1, 1)},
		{"9223372036854775808x", fault(api.Limit, 1, 1)},
		{"1234567890123456789x", fault(api.Syntax, 1, 1)},
		{"922337203685477580x8", fault(api.Syntax, 1, 1)},
		{"00000000000000000000", fault(api.Syntax, 1, 1)},
		{"0f", fault(api.Syntax, 1, 1)},
		{"0f000000000000000", fault(api.Syntax, 1, 1)},
		{"0f00000000000000000", fault(api.Syntax, 1, 1)},
		{"0f000000000000000g", fault(api.Syntax, 1, 1)},
		{"0f000000000000000A", fault(api.Syntax, 1, 1)},
		{"0f000000000000000_", fault(api.Syntax, 1, 1)},
		{"0F0000000000000000", fault(api.Syntax, 1, 1)},
		{"1f0000000000000000", fault(api.Syntax, 1, 1)},
	}
	for _, x := range tests {
		l, e := lex.All(x.text)
		if e != x.want || l != nil {
			t.Errorf("All(%q) = %v, %v, want %v", x.text, l, e, x.want)
		}
	}
}

// P1.1: MaxText, and what is told ahead of what.
func TestMaxText(t *testing.T) {
	if l := all(t, strings.Repeat(" ", api.MaxText)); len(l) != 1 || l[0].At != at(1, api.MaxText+1) {
		t.Error(l)
	}
	for _, b := range []string{" ", "#", "\n", ";"} {
		l, e := lex.All(strings.Repeat(b, api.MaxText+1))
		if l != nil || e != (api.Err{Code: api.Limit}) {
			t.Errorf("%q: %v, %v", b, len(l), e)
		}
	}
}

// P1.1: MaxTokens, the End aside; a Limit ahead of other errors at the same token.
func TestMaxTokens(t *testing.T) {
	most := strings.Repeat(";", api.MaxTokens)
	if l := all(t, most+" // x\n"); len(l) != api.MaxTokens+1 || l[api.MaxTokens] != (lex.Token{At: at(2, 1)}) {
		t.Error(len(l))
	}
	tests := []struct {
		text string
		want api.Err
	}{
		{most + ";", fault(api.Limit, 1, api.MaxTokens+1)},
		{most + "\n #", fault(api.Limit, 2, 2)},
		{most + "\n 00", fault(api.Limit, 2, 2)},
		{most[1:] + "\n # ;", fault(api.Syntax, 2, 2)},
	}
	for _, x := range tests {
		if l, e := lex.All(x.text); l != nil || e != x.want {
			t.Errorf("%v, %v, want %v", len(l), e, x.want)
		}
	}
}

// shapes are what the chapter's table says of tokens: the longest run, and which runs of those may be one.
var shapes = []struct {
	kind int
	run  *regexp.Regexp
	good *regexp.Regexp
}{
	{lex.Name, regexp.MustCompile(`^[A-Za-z_][A-Za-z_0-9]*`), regexp.MustCompile(`^.{1,24}$`)},
	{lex.Life, regexp.MustCompile(`^'[a-z][A-Za-z_0-9]*`), regexp.MustCompile(`^.{1,25}$`)},
	{lex.Int, regexp.MustCompile(`^[0-9][A-Za-z_0-9]*`), regexp.MustCompile(`^(0|[1-9][0-9]{0,17})$`)},
	{lex.Mark, regexp.MustCompile(`^(->|==|&&|[(){}<>,;:=&|+*/!.-])`), regexp.MustCompile(``)},
}

var between = regexp.MustCompile(`^([ \t\r\n]|//[^\n]*)+`)

// slow reads a short text by the patterns.
func slow(s string) ([]lex.Token, bool) {
	var out []lex.Token
	for {
		s = s[len(between.FindString(s)):]
		if s == "" {
			return append(out, lex.Token{}), true
		}
		found := false
		for _, x := range shapes {
			run := x.run.FindString(s)
			if run == "" {
				continue
			}
			if !x.good.MatchString(run) {
				return nil, false
			}
			n, _ := strconv.ParseUint(run, 10, 64)
			out = append(out, lex.Token{Kind: x.kind, Text: run, Val: n})
			s, found = s[len(run):], true
			break
		}
		if !found {
			return nil, false
		}
	}
}

// each lets see see all texts of at most n bytes of an alphabet.
func each(alphabet, s string, n int, see func(string)) {
	see(s)
	for i := 0; n > 0 && i < len(alphabet); i++ {
		each(alphabet, s+alphabet[i:i+1], n-1, see)
	}
}

// P1.1: all short texts are read as the patterns say. P1.2: their tokens' texts, put together, have the same tokens.
func TestShortTexts(t *testing.T) {
	good := 0
	each("aZ0f7'/-=>& \n#", "", 5, func(s string) {
		want, ok := slow(s)
		l, e := lex.All(s)
		if ok != (e == api.Err{}) || ok && !reflect.DeepEqual(bare(l), want) || !ok && e.Code != api.Syntax {
			t.Fatalf("All(%q) = %v, %v, want %v, %v", s, l, e, want, ok)
		}
		if ok {
			good++
			putAgain(t, l)
		}
	})
	if good < 10000 {
		t.Error("few texts were right:", good)
	}
}

func putAgain(t *testing.T, l []lex.Token) {
	t.Helper()
	s := lex.Put(texts(l)...)
	if again := all(t, s); !reflect.DeepEqual(bare(again), bare(l)) {
		t.Fatalf("put together as %q: %v, not %v", s, again, l)
	}
}

// P1.2 of longer texts: of all kinds of tokens, and without a blank where none is needed.
func TestPutAgain(t *testing.T) {
	for _, s := range []string{
		"",
		"// nothing",
		words,
		"struct S<'a,T>{f:&'a mut T}fn f<'a,T>(x:&'a mut T)->bool where T:A+'a{return!*x==0f7ff8000000000002&&1<-2|true;}",
		"a//b\n->'c'd-->e<>f=====&&&&&9223372036854775807*0",
	} {
		putAgain(t, all(t, s))
	}
}

// P1.1: Word.
func TestWord(t *testing.T) {
	l := strings.Fields(words)
	if len(l) != 25 {
		t.Fatal(len(l))
	}
	for _, w := range l {
		if !lex.Word(w) || lex.Word(strings.ToUpper(w)) || lex.Word(w+" ") || lex.Word(w[1:]) || lex.Word(w+"_") {
			t.Error(w)
		}
	}
	for _, w := range []string{"", "x", "box", "Int", "Self", "main", "'static", "->", "unit", "float", "f32"} {
		if lex.Word(w) {
			t.Error(w)
		}
	}
}

// P1.1: Put.
func TestPut(t *testing.T) {
	tests := []struct {
		list []string
		want string
	}{
		{nil, ""},
		{[]string{""}, ""},
		{[]string{"a"}, "a"},
		{[]string{"a", "->", "'b"}, "a -> 'b"},
		{[]string{"", "a", "", ""}, " a  "},
	}
	for _, x := range tests {
		if got := lex.Put(x.list...); got != x.want {
			t.Errorf("Put(%q) = %q, want %q", x.list, got, x.want)
		}
	}
}
