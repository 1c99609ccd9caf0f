package lex_test

import (
	"reflect"
	"runtime"
	"slices"
	"testing"

	"chattel/api"
	"chattel/lex"
)

// P1.1: Read answers what by gave up with, OK too, at the next token's place.
func TestRead(t *testing.T) {
	l := all(t, "fn f\n ( 7")
	for code := api.OK; code <= api.Nil; code++ {
		reached := false
		e := lex.Read(l, func(r *lex.Reader) {
			r.Need("fn")
			r.Name()
			r.Fail(code)
			reached = true
		})
		if e != fault(code, 2, 2) || reached {
			t.Error(code, e, reached)
		}
	}
	if e := lex.Read(l, nil); e != (api.Err{}) {
		t.Error(e)
	}
	if e := lex.Read(l, func(r *lex.Reader) { r.Next() }); e != (api.Err{}) {
		t.Error(e)
	}
	if e := lex.Read(nil, func(r *lex.Reader) { r.Fail(api.Kind) }); e != (api.Err{Code: api.Kind}) {
		t.Error(e)
	}
}

// caught is what f panics with.
func caught(f func()) (x any) {
	defer func() { x = recover() }()
	f()
	return nil
}

// P1.1: what else by panics with goes on, the same.
func TestReadOtherPanic(t *testing.T) {
	own := &struct{ n int }{1}
	for _, x := range []any{"text", 7, api.Syntax, fault(api.Syntax, 1, 1), own} {
		if got := caught(func() { lex.Read(nil, func(*lex.Reader) { panic(x) }) }); got != x {
			t.Errorf("%v, want %v", got, x)
		}
	}
	got := caught(func() { lex.Read(nil, func(*lex.Reader) { _ = []int{}[len(words)-len(words)] }) })
	if _, ok := got.(runtime.Error); !ok {
		t.Error(got)
	}
}

// P1.1: a Read within a Read has its own list, and what gives up there gives up no more.
func TestReadInRead(t *testing.T) {
	e := lex.Read(all(t, "a b"), func(r *lex.Reader) {
		r.Next()
		in := lex.Read(all(t, "\n;"), func(s *lex.Reader) { s.Name() })
		if in != fault(api.Syntax, 2, 1) {
			t.Error(in)
		}
		r.Need("c")
	})
	if e != fault(api.Syntax, 1, 3) {
		t.Error(e)
	}
}

// Rule 4: the list is neither changed nor kept.
func TestReadKeepsNothing(t *testing.T) {
	l := all(t, "a b c")
	was := slices.Clone(l)
	var kept *lex.Reader
	lex.Read(l, func(r *lex.Reader) {
		kept = r
		r.Name()
	})
	if !reflect.DeepEqual(l, was) {
		t.Error(l)
	}
	clear(l)
	if got := kept.Next(); got != was[1] {
		t.Error(got)
	}
}

// P1.1: Peek, At, Next: of a list with an End; without one; with one within; of none; of no reader.
func TestNext(t *testing.T) {
	l := all(t, "a 7\n;")
	tests := []struct {
		list []lex.Token
		want []lex.Token
	}{
		{l, []lex.Token{l[0], l[1], l[2], l[3], l[3], l[3]}},
		{l[:2], []lex.Token{l[0], l[1], {At: at(1, 3)}, {At: at(1, 3)}}},
		{[]lex.Token{l[0], l[3], l[1]}, []lex.Token{l[0], l[3], l[3], l[3]}},
		{[]lex.Token{}, []lex.Token{{}, {}}},
		{nil, []lex.Token{{}, {}}},
	}
	for _, x := range tests {
		lex.Read(x.list, func(r *lex.Reader) {
			for i, w := range x.want {
				if r.Peek() != w || r.At() != w.At || r.Next() != w {
					t.Errorf("%v: token %d isn't %v", x.list, i, w)
				}
			}
		})
	}
	for _, r := range []*lex.Reader{nil, {}} {
		if r.Peek() != (lex.Token{}) || r.At() != (api.Pos{}) || r.Next() != (lex.Token{}) || r.Sees(";") || r.Is("") {
			t.Error("of no tokens")
		}
		r.Need()
		for _, f := range []func(){func() { r.Name() }, func() { r.Need("fn") }, func() { r.Fail(api.Syntax) }} {
			if e := lex.Read(l, func(*lex.Reader) { f() }); e != (api.Err{Code: api.Syntax}) {
				t.Error(e)
			}
		}
	}
}

// P1.1: Sees and Is know marks and words, and nothing else.
func TestSees(t *testing.T) {
	l := all(t, "-> fn x 'a 7 0f0000000000000000 -")
	marks := map[string]bool{"->": true, "fn": true, "-": true}
	lex.Read(l, func(r *lex.Reader) {
		for i, x := range l {
			for _, text := range []string{"->", "fn", "x", "'a", "7", "0f0000000000000000", "-", "", ">", "f"} {
				if r.Sees(text) != (x.Text == text && marks[text]) || r.Peek() != x {
					t.Errorf("at %v: Sees(%q)", x, text)
				}
			}
			if r.Is("fnn") || r.Peek() != x {
				t.Errorf("Is took %v", x)
			}
			if !marks[x.Text] {
				r.Next()
			} else if !r.Is(x.Text) || r.Peek() != l[i+1] {
				t.Errorf("Is took not %v", x)
			}
		}
	})
}

// P1.1: Need takes all that must be next, or gives up at the first that isn't.
func TestNeed(t *testing.T) {
	tests := []struct {
		need []string
		want api.Err
		next string
	}{
		{nil, api.Err{}, "fn"},
		{[]string{"fn"}, api.Err{}, "("},
		{[]string{"fn", "(", ")"}, api.Err{}, "x"},
		{[]string{"("}, fault(api.Syntax, 1, 1), "fn"},
		{[]string{"fn", ")"}, fault(api.Syntax, 1, 4), "("},
		{[]string{"fn", "(", ")", "x"}, fault(api.Syntax, 2, 1), "x"},
		{[]string{""}, fault(api.Syntax, 1, 1), "fn"},
	}
	for _, x := range tests {
		var kept *lex.Reader
		e := lex.Read(all(t, "fn ( )\nx"), func(r *lex.Reader) {
			kept = r
			r.Need(x.need...)
		})
		if e != x.want || kept.Peek().Text != x.next {
			t.Errorf("Need(%q): %v, %v", x.need, e, kept.Peek())
		}
	}
}

// P1.1: Name takes a name that is no word.
func TestName(t *testing.T) {
	lex.Read(all(t, "x fnx"), func(r *lex.Reader) {
		if a, b := r.Name(), r.Name(); a != "x" || b != "fnx" || r.Peek().Kind != lex.End {
			t.Error(a, b)
		}
	})
	for _, s := range []string{"fn", "self", "'a", "7", "0f0000000000000000", ";", ""} {
		e := lex.Read(all(t, "\n "+s), func(r *lex.Reader) { r.Name() })
		if e != fault(api.Syntax, 2, 2) {
			t.Errorf("%q: %v", s, e)
		}
	}
}

// down is how deep r goes, at most n deeper.
func down(r *lex.Reader, n int) int {
	got := 0
	r.Deep(func() {
		got = 1
		if n > 1 {
			r.Next()
			got += down(r, n-1)
		}
	})
	return got
}

// P1.1: Deep, up to MaxDepth; one more is a Limit at the next token, wherever it is begun.
func TestDeep(t *testing.T) {
	l := all(t, lex.Put(slices.Repeat([]string{"a"}, 2*api.MaxDepth)...))
	e := lex.Read(l, func(r *lex.Reader) {
		for range 3 {
			if n := down(r, api.MaxDepth/2); n != api.MaxDepth/2 {
				t.Error(n)
			}
		}
		if n := down(r, api.MaxDepth); n != api.MaxDepth {
			t.Error(n)
		}
	})
	if e != (api.Err{}) {
		t.Error(e)
	}
	e = lex.Read(l, func(r *lex.Reader) { down(r, api.MaxDepth+1) })
	if e != fault(api.Limit, 1, 1+2*api.MaxDepth) {
		t.Error(e)
	}
}

// P1.1: what gave up within Deep is no deeper any more.
func TestDeepGivesUp(t *testing.T) {
	e := lex.Read(all(t, "a b"), func(r *lex.Reader) {
		r.Next()
		for range 2 * api.MaxDepth {
			in := lex.Read(nil, func(*lex.Reader) { r.Deep(func() { r.Fail(api.Kind) }) })
			if in != fault(api.Kind, 1, 3) {
				t.Fatal(in)
			}
		}
	})
	if e != (api.Err{}) {
		t.Error(e)
	}
}

// P1.1: a nil reader or function: nothing, at any depth.
func TestDeepNil(t *testing.T) {
	var none *lex.Reader
	none.Deep(func() { t.Error("done") })
	none.Deep(nil)
	e := lex.Read(nil, func(r *lex.Reader) {
		for range 2 * api.MaxDepth {
			r.Deep(nil)
		}
		var to func(int)
		to = func(n int) {
			if n > 0 {
				r.Deep(func() { to(n - 1) })
			} else {
				r.Deep(nil)
			}
		}
		to(api.MaxDepth)
	})
	if e != (api.Err{}) {
		t.Error(e)
	}
}
