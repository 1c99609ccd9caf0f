package mir

import (
	"strconv"
	"strings"

	"chattel/num"
	"chattel/types"
)

// writer puts parts of a body down. What is nought is left out where its mark tells it; names are quoted, so that no name looks like what stands behind it.
type writer struct{ strings.Builder }

// put: all texts, if there is something to say.
func (w *writer) put(there bool, texts ...string) {
	if !there {
		return
	}
	for _, s := range texts {
		w.WriteString(s)
	}
}

// list: each of so many between marks; an empty list is left out.
func (w *writer) list(open string, n int, each func(i int), shut string) {
	for i := range n {
		w.put(i == 0, open)
		w.put(i > 0, ", ")
		each(i)
	}
	w.put(n > 0, shut)
}

func dec(n int) string { return num.Dec(int64(n)) }

// word: that of a kind, from 1 on; a kind that isn't there is its number.
func word(kind int, words ...string) string {
	if kind < 1 || kind > len(words) {
		return dec(kind)
	}
	return words[kind-1]
}

// Text: a body's text, a line each of its locals and instructions.
func Text(b *Body) string {
	if b == nil {
		return ""
	}
	w := &writer{}
	w.put(true, "fn ", strconv.Quote(b.Name), " ", dec(b.Params), "\n")
	for i, l := range b.Locals {
		w.put(true, "_", dec(i), " ", strconv.Quote(l.Name), " ")
		w.typ(l.Type)
		w.put(true, "\n")
	}
	for i, c := range b.Code {
		w.put(true, dec(i))
		w.instr(c)
		w.put(true, "\n")
	}
	return w.String()
}

func (w *writer) instr(c Instr) {
	w.put(true, " ", word(c.Kind, "live", "dead", "assign", "jump", "if", "return", "abort"))
	w.put(c.Kind == Live || c.Kind == Dead || c.Local != 0, " _", dec(c.Local))
	w.place(c.Kind == Assign, " set ", c.Dest)
	w.right(c.R)
	w.put(c.Kind == If || !nought(c.Cond), " cond ")
	w.operand(c.Cond)
	w.put(c.Kind == If || c.Kind == Jump || c.To != 0, " to ", dec(c.To))
	w.put(c.Kind == If || c.Else != 0, " else ", dec(c.Else))
}

func (w *writer) right(r Right) {
	w.put(r.Kind != 0, " = ", word(r.Kind, "use", "borrow", "bin", "un", "newbox", "unbox", "make", "call", "invoke", "choose", "coerce"))
	w.put(r.Mut, " mut")
	w.place(r.Kind == Borrow, " of ", r.Place)
	w.put(r.Name != "", " ", strconv.Quote(r.Name))
	w.put(r.Kind == Invoke || r.N != 0, " # ", dec(r.N))
	w.list(" < ", len(r.Types), func(i int) { w.typ(r.Types[i]) }, " >")
	w.list(" ( ", len(r.Args), func(i int) { w.operand(r.Args[i]) }, " )")
}

// nought: does an operand say nothing?
func nought(o Operand) bool {
	return o.Kind == 0 && o.Place.Local == 0 && len(o.Place.Path) == 0 && o.Type == 0 && o.N == 0
}

func (w *writer) operand(o Operand) {
	w.put(o.Kind != 0, word(o.Kind, "const", "copy", "move"))
	w.place(o.Kind == Copy || o.Kind == Move, " ", o.Place)
	w.put(o.Kind == Const || o.Type != 0, " : ", kindWord(o.Type))
	w.put(o.Kind == Const || o.N != 0, " # ", num.Dec(int64(o.N)))
}

// place: one of no local but 0 and without steps is left out, unless it is asked for.
func (w *writer) place(asked bool, mark string, p Place) {
	if !asked && p.Local == 0 && len(p.Path) == 0 {
		return
	}
	w.put(true, mark, "_", dec(p.Local))
	for _, n := range p.Path {
		w.put(true, ".", dec(n))
	}
}

func kindWord(kind int) string {
	return word(kind, "int", "bool", "f64", "()", "struct", "box", "ref", "dyn", "param")
}

// typ tells more than layer 7's Text: what isn't a kind's own, too.
func (w *writer) typ(t types.Type) {
	w.put(true, kindWord(t.Kind))
	w.put(t.Name != "", " ", strconv.Quote(t.Name))
	w.put(t.Mut, " mut")
	w.put(t.Region != 0, " '", dec(t.Region))
	w.list(" [ ", len(t.Regions), func(i int) { w.put(true, dec(t.Regions[i])) }, " ]")
	w.list(" < ", len(t.Args), func(i int) { w.typ(t.Args[i]) }, " >")
}
