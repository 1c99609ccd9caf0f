package lower_test

import (
	"math/rand"
	"reflect"
	"slices"
	"strings"
	"testing"

	"chattel/api"
	"chattel/lower"
	"chattel/mir"
	"chattel/sigs"
	"chattel/tree"
)

// texts are programs in which nothing is wrong.
func texts() []string {
	var l []string
	for _, c := range bodies {
		if c.want >= 0 {
			l = append(l, lib+"fn main ( ) -> int { "+c.text+" }")
		}
	}
	for seed := range int64(60) {
		w := &writer{Rand: rand.New(rand.NewSource(seed))}
		l = append(l, randomHead+"fn main ( ) -> int { "+randomAhead+w.block(2)+randomBehind+"}")
	}
	return l
}

// without: items, all bodies of which but the one at at are others.
func without(items []tree.Item, at api.Pos) []tree.Item {
	other := []tree.Stmt{{Kind: tree.SExpr, E: []tree.Expr{{Kind: tree.EVar, Name: "nowhere"}}}}
	var out []tree.Item
	for _, x := range items {
		if x.At != at {
			x.Body = other
		}
		x.Methods = slices.Clone(x.Methods)
		for i, m := range x.Methods {
			if m.At != at {
				x.Methods[i].Body = other
			}
		}
		out = append(out, x)
	}
	return out
}

// P18.3: what comes of a job hangs on the job and on the heads alone.
func TestAlone(t *testing.T) {
	for _, text := range texts() {
		w := read(t, text)
		for i, j := range lower.Jobs(w.table, w.env) {
			d, e := lower.Lower(w.table, w.env, j)
			v := build(t, without(w.items, j.At))
			k := lower.Jobs(v.table, v.env)[i]
			if again, wrong := lower.Lower(v.table, v.env, k); !reflect.DeepEqual(d, again) || e != wrong {
				t.Fatalf("%s: %s: %v %v", text, j.Name, e, wrong)
			}
			if again, wrong := lower.Lower(w.table, w.env, j); !reflect.DeepEqual(d, again) || e != wrong {
				t.Fatalf("%s: %s: not the same", text, j.Name)
			}
		}
	}
}

// ats are the places of statements and expressions, in their order.
func ats(l []tree.Stmt) []api.Pos {
	var out []api.Pos
	for _, s := range l {
		out = append(out, s.At)
		for _, e := range slices.Concat(s.Place, s.E) {
			tree.Walk(e, func(x tree.Expr) {
				out = append(out, x.At)
				out = append(out, ats(x.Body)...)
			})
		}
		out = append(out, ats(s.Body)...)
		out = append(out, ats(s.Else)...)
	}
	return out
}

// P18.1: trees that differ in places alone come to the same, but for At: that is of the same statement or expression.
func TestPlaces(t *testing.T) {
	for _, text := range texts() {
		w := read(t, text)
		v := read(t, strings.ReplaceAll(tree.Print(w.items), " ", "\n "))
		one, e := w.pieces()
		two, wrong := v.pieces()
		if e.Code != wrong.Code || len(one) != len(two) {
			t.Fatalf("%s: %v %v", text, e, wrong)
		}
		for i, p := range one {
			q := two[i]
			if mir.Text(p.done.Body) != mir.Text(q.done.Body) || parts(p.done) != parts(q.done) {
				t.Fatalf("%s: %s: not the same", text, p.job.Name)
			}
			to := map[api.Pos]api.Pos{p.job.At: q.job.At}
			for k, at := range ats(p.job.Body) {
				to[at] = ats(q.job.Body)[k]
			}
			for k, c := range p.done.Body.Code {
				if other, ok := to[c.At]; !ok || other != q.done.Body.Code[k].At {
					t.Fatalf("%s: %s: %d: %v %v", text, p.job.Name, k, c.At, q.done.Body.Code[k].At)
				}
			}
		}
	}
	// Also where all are nowhere.
	w := read(t, lib)
	f := lower.Job{Name: "f", Names: []string{"x"}, Sig: sigs.Sig{Params: []T{{Kind: 1}}, Ret: T{Kind: 4}}}
	for _, c := range []string{"x = x + 1 ;", "* id ( & mut x ) = x ; as Show | | { x ; } ;", "if choose { x = 1 ; } while x < 3 { x = x + 1 ; let y = x ; }"} {
		v := read(t, lib+"fn main ( x : int ) { "+c+" }")
		f.Body = v.items[len(v.items)-1].Body
		d, e := lower.Lower(w.table, w.env, f)
		f.Body = bare(f.Body)
		again, wrong := lower.Lower(w.table, w.env, f)
		if e.Code != 0 || wrong.Code != 0 || mir.Text(d.Body) != mir.Text(again.Body) || parts(d) != parts(again) {
			t.Errorf("%s: %v %v", c, e, wrong)
		}
	}
}

// bare: statements that are nowhere.
func bare(l []tree.Stmt) []tree.Stmt {
	var out []tree.Stmt
	for _, s := range l {
		s.At = api.Pos{}
		s.Place, s.E = bareAll(s.Place), bareAll(s.E)
		s.Body, s.Else = bare(s.Body), bare(s.Else)
		out = append(out, s)
	}
	return out
}

func bareAll(l []tree.Expr) []tree.Expr {
	var out []tree.Expr
	for _, e := range l {
		e.At = api.Pos{}
		e.Args, e.Body = bareAll(e.Args), bare(e.Body)
		out = append(out, e)
	}
	return out
}

// P1: heads and jobs stay as they are, with the spare room of their lists.
func TestUnchanged(t *testing.T) {
	for _, text := range texts()[:150] {
		w := read(t, text)
		spare := func(e *sigs.Env) {
			e.Structs = append(make([]sigs.Struct, 0, len(e.Structs)+9), e.Structs...)
			e.Impls = append(make([]sigs.Impl, 0, len(e.Impls)+9), e.Impls...)
		}
		spare(w.env)
		before := read(t, text)
		spare(before.env)
		jobs := lower.Jobs(w.table, w.env)
		for _, j := range jobs {
			lower.Lower(w.table, w.env, j)
		}
		full := func(e *sigs.Env) ([]sigs.Struct, []sigs.Impl) {
			return e.Structs[:cap(e.Structs)], e.Impls[:cap(e.Impls)]
		}
		a, b := full(w.env)
		c, d := full(before.env)
		if !reflect.DeepEqual(a, c) || !reflect.DeepEqual(b, d) || !reflect.DeepEqual(w.env, before.env) || !reflect.DeepEqual(w.items, before.items) || !reflect.DeepEqual(jobs, lower.Jobs(before.table, before.env)) {
			t.Fatalf("%s: changed", text)
		}
	}
}
