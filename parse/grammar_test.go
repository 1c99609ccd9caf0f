package parse_test

import (
	"math/rand"
	"strings"
	"testing"
)

// rules is the chapter's grammar, with what it says beside it in words written out: lifetimes ahead of names, names ahead of lifetimes, params that aren't empty.
const rules = `
program  { item }
item     "struct" NAME gen "{" params "}"  |  "trait" NAME "{" { head ";" } "}"
       | "impl" NAME "for" ( "int" | "bool" | "f64" | NAME ) where "{" { head block } "}"
       | "fn" NAME gen "(" params ")" ret where block
head     "fn" NAME own "(" [ "&" [ LIFE ] [ "mut" ] ] "self" [ "," some ] ")" ret where
own      [ "<" LIFE { "," LIFE } ">" ]
gen      [ "<" ( LIFE { "," LIFE } { "," NAME } | NAME { "," NAME } ) ">" ]
params   [ some ]
some     NAME ":" type { "," NAME ":" type }
ret      [ "->" type ]
where    [ "where" bound { "," bound } ]
bound    LIFE ":" LIFE { "+" LIFE }  |  NAME ":" ( NAME { "+" NAME } { "+" LIFE } | LIFE { "+" LIFE } )
type     "int" | "bool" | "f64" | "(" ")" | "Box" "<" type ">" | "&" [ LIFE ] [ "mut" ] type | "dyn" NAME [ "+" LIFE ]
       | NAME [ "<" ( LIFE { "," LIFE } { "," type } | type { "," type } ) ">" ]
block    "{" { stmt } "}"
stmt     "let" NAME [ ":" type ] [ "=" expr ] ";"  |  "if" expr block [ "else" block ]  |  "while" expr block
       | "return" [ expr ] ";"  |  "abort" ";"  |  block  |  expr [ "=" expr ] ";"
expr     and { "|" and }
and      cmp { "&&" cmp }
cmp      sum [ ( "==" | "<" ) sum ]
sum      mul { ( "+" | "-" ) mul }
mul      unary { ( "*" | "/" ) unary }
unary    ( "-" | "!" | "*" | "&" [ "mut" ] ) unary  |  postfix
postfix  primary { "." NAME [ "(" [ expr { "," expr } ] ")" ] }
primary  Int | Float | "true" | "false" | "choose" | "Box" "(" expr ")" | "unbox" "(" expr ")" | "(" [ expr ] ")" | "self"
       | "new" NAME "{" [ NAME ":" expr { "," NAME ":" expr } ] "}" | "as" NAME "|" [ NAME { "," NAME } ] "|" block
       | NAME [ "(" [ expr { "," expr } ] ")" ]
`

// grammar is rules of the form "a symbol is these, one behind the other"; a symbol with none is a token, a mark or a word in quotes.
type grammar struct {
	of    map[string][][]string
	words []string // what is left of the text of the rules
	fresh int
}

func newGrammar() *grammar {
	g := &grammar{of: map[string][][]string{}}
	for _, line := range strings.Split(strings.TrimSpace(strings.ReplaceAll(rules, "\n       |", " |")), "\n") {
		f := strings.Fields(line)
		g.words = f[1:]
		g.of[f[0]] = g.choice()
	}
	return g
}

// choice reads what may stand, with | between.
func (g *grammar) choice() [][]string {
	var out [][]string
	for {
		l := []string{}
		for len(g.words) > 0 && !strings.Contains("| ) ] }", g.words[0]) {
			l = append(l, g.one())
		}
		out = append(out, l)
		if len(g.words) == 0 || g.words[0] != "|" {
			return out
		}
		g.words = g.words[1:]
	}
}

// one reads a symbol; a group becomes a symbol of its own.
func (g *grammar) one() string {
	w := g.words[0]
	g.words = g.words[1:]
	if !strings.Contains("( [ {", w) {
		return w
	}
	l := g.choice()
	g.words = g.words[1:]
	g.fresh++
	s := "group " + string(rune('A'+g.fresh))
	switch w {
	case "[":
		l = append(l, []string{})
	case "{":
		for i := range l {
			l[i] = append([]string{s}, l[i]...)
		}
		l = append(l, []string{})
	}
	g.of[s] = l
	return s
}

// state is how far a rule has been come, and where it began.
type state struct {
	of       string
	rule, at int
	from     int
}

// column is all states behind so many tokens.
type column struct {
	list []state
	has  map[state]bool
}

func (c *column) add(s state) {
	if !c.has[s] {
		c.has[s] = true
		c.list = append(c.list, s)
	}
}

// next: the symbol that a state wants, or "".
func (g *grammar) next(s state) string {
	if l := g.of[s.of][s.rule]; s.at < len(l) {
		return l[s.at]
	}
	return ""
}

// empty: may a symbol be no tokens?
func (g *grammar) empty(s string) bool {
	for _, l := range g.of[s] {
		if len(l) == 0 {
			return true
		}
	}
	return s == "program" || s == "params" || s == "gen" || s == "own" || s == "ret" || s == "where"
}

// close adds all that follows from the states of the last column.
func (g *grammar) close(cols []*column) {
	here := len(cols) - 1
	c := cols[here]
	for i := 0; i < len(c.list); i++ {
		s := c.list[i]
		want := g.next(s)
		if want == "" {
			for _, x := range cols[s.from].list {
				if g.next(x) == s.of {
					c.add(state{x.of, x.rule, x.at + 1, x.from})
				}
			}
			continue
		}
		for r := range g.of[want] {
			c.add(state{want, r, 0, here})
		}
		if g.empty(want) {
			c.add(state{s.of, s.rule, s.at + 1, s.from})
		}
	}
}

// stuck: the number of the first token with which nothing that may be goes on; -1: they are a whole start. (So many tokens as there are: they should go on.)
func (g *grammar) stuck(start string, tokens []string) int {
	c := &column{has: map[state]bool{}}
	for r := range g.of[start] {
		c.add(state{start, r, 0, 0})
	}
	cols := []*column{c}
	g.close(cols)
	for i, t := range tokens {
		n := &column{has: map[state]bool{}}
		for _, s := range cols[i].list {
			if want := g.next(s); g.of[want] == nil && strings.Trim(want, `"`) == t {
				n.add(state{s.of, s.rule, s.at + 1, s.from})
			}
		}
		if len(n.list) == 0 {
			return i
		}
		cols = append(cols, n)
		g.close(cols)
	}
	for _, s := range cols[len(tokens)].list {
		if s.of == start && s.from == 0 && g.next(s) == "" {
			return -1
		}
	}
	return len(tokens)
}

// heights: how deep the least that a symbol may be is nested.
func (g *grammar) heights() map[string]int {
	h := map[string]int{}
	for done := false; !done; {
		done = true
		for s, l := range g.of {
			for _, rule := range l {
				n, ok := g.height(h, rule)
				if old, was := h[s]; ok && (!was || n+1 < old) {
					h[s], done = n+1, false
				}
			}
		}
	}
	return h
}

func (g *grammar) height(h map[string]int, rule []string) (int, bool) {
	n := 0
	for _, s := range rule {
		if g.of[s] == nil {
			continue
		}
		x, ok := h[s]
		if !ok {
			return 0, false
		}
		n = max(n, x)
	}
	return n, true
}

// writer writes sentences of the grammar.
type writer struct {
	*grammar
	*rand.Rand
	wide  *grammar // with names in a head's angles, too
	least map[string]int
	left  int // how many more tokens it writes ahead of coming to an end
}

func newWriter(seed int64) *writer {
	g, wide := newGrammar(), newGrammar()
	wide.of["own"] = wide.of["gen"]
	return &writer{grammar: g, wide: wide, Rand: rand.New(rand.NewSource(seed)), least: g.heights()}
}

// sentence is tokens that a symbol may be, not many more than about.
func (w *writer) sentence(s string, about int) []string {
	w.left = about
	return w.write(nil, s)
}

func (w *writer) write(out []string, s string) []string {
	l := w.of[s]
	if l == nil {
		w.left--
		return append(out, strings.Trim(s, `"`))
	}
	rule := l[w.Intn(len(l))]
	if w.left <= 0 {
		rule = w.shortest(l)
	}
	if len(rule) == 0 || rule[0] != s {
		return w.all(out, rule)
	}
	for n := 1 + w.Intn(3); n > 0 && w.left > 0; n-- { // few enough to stay within the limits
		out = w.all(out, rule[1:])
	}
	return out
}

func (w *writer) all(out []string, rule []string) []string {
	for _, x := range rule {
		out = w.write(out, x)
	}
	return out
}

func (w *writer) shortest(l [][]string) []string {
	best, least := l[0], 1000
	for _, rule := range l {
		if n, _ := w.height(w.least, rule); n < least && (len(rule) == 0 || w.least[rule[0]] < 1000) {
			best, least = rule, n
		}
	}
	return best
}

// The grammar's reader finds what may be, and where nothing goes on.
func TestGrammar(t *testing.T) {
	g := newGrammar()
	for text, want := range map[string]int{
		"":                                       -1,
		"struct NAME { }":                        -1,
		"struct NAME {":                          3,
		"struct NAME NAME":                       2,
		"struct { }":                             1,
		"NAME":                                   0,
		"fn NAME ( ) { NAME == NAME == NAME ; }": 8,
		"fn NAME ( NAME : NAME < LIFE , NAME , LIFE > )": 11,
	} {
		if got := g.stuck("program", strings.Fields(text)); got != want {
			t.Errorf("%q: %d, want %d", text, got, want)
		}
	}
}
