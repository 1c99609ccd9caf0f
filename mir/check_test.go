package mir_test

import (
	"testing"

	"chattel/mir"
	"chattel/types"
)

func check(t *testing.T, name string, b *B, want int) {
	t.Helper()
	if got := mir.Check(b); got != want {
		t.Error(name, got, "not", want)
	}
}

// P14.1: no instructions, no body, numbers of parameters that may not be.
func TestCheckBody(t *testing.T) {
	check(t, "nil", nil, 0)
	check(t, "nothing", &B{}, 0)
	check(t, "no code", body(3), 0)
	check(t, "no locals", &B{Code: []I{ret()}}, 0)
	for params := -2; params < 6; params++ {
		want := 0
		if params >= 0 && params < 3 {
			want = -1
		}
		b := body(3, I{Kind: mir.Live}, ret())
		b.Params = params
		check(t, "params", b, want)
	}
}

// one: a body in which one instruction stands behind one that may be.
func one(c I) *B { return body(4, I{Kind: mir.Live, Local: 1}, c, ret()) }

func may(t *testing.T, name string, c I)    { t.Helper(); check(t, name, one(c), -1) }
func mayNot(t *testing.T, name string, c I) { t.Helper(); check(t, name, one(c), 1) }

// either: may it just if so?
func either(t *testing.T, name string, is bool, c I) {
	t.Helper()
	if is {
		may(t, name, c)
	} else {
		mayNot(t, name, c)
	}
}

// P14.1: kinds, locals and where they go on.
func TestCheckKinds(t *testing.T) {
	for kind := -2; kind < 12; kind++ {
		c := set(at(1), R{Kind: mir.Choose})
		c.Kind, c.Cond = kind, con(types.Bool, 0)
		either(t, "kind", kind >= 1 && kind <= 7, c)
	}
	for n := -2; n < 7; n++ {
		there := n >= 0 && n < 4
		either(t, "live", there, I{Kind: mir.Live, Local: n})
		either(t, "dead", there, I{Kind: mir.Dead, Local: n})
		either(t, "set", there, set(at(n), R{Kind: mir.Choose}))
		either(t, "set a part", there, set(at(n, 0), R{Kind: mir.Choose}))
		either(t, "jump", n >= 0 && n < 3, I{Kind: mir.Jump, To: n})
		either(t, "if", n >= 0 && n < 3, I{Kind: mir.If, Cond: con(types.Bool, 0), To: n, Else: 2})
		either(t, "else", n >= 0 && n < 3, I{Kind: mir.If, Cond: con(types.Bool, 0), To: 2, Else: n})
		either(t, "step", n >= -1, set(at(1, 0, n, 0), R{Kind: mir.Choose}))
		for kind := -1; kind < 6; kind++ {
			o := O{Kind: kind, Place: at(n, 0), Type: types.Int}
			ok := kind == mir.Const || there && (kind == mir.Copy || kind == mir.Move)
			either(t, "operand", ok, set(at(1), R{Kind: mir.Use, Args: []O{o}}))
			either(t, "second operand", ok, set(at(1), R{Kind: mir.Bin, Args: []O{cp(at(0)), o}}))
			either(t, "cond", ok, I{Kind: mir.If, Cond: o})
		}
		either(t, "const", n >= 1 && n <= 4, set(at(1), R{Kind: mir.Use, Args: []O{con(n, 5)}}))
		either(t, "cond's const", n >= 1 && n <= 4, I{Kind: mir.If, Cond: con(n, 5)})
		either(t, "lent", there, set(at(1), R{Kind: mir.Borrow, Place: at(n)}))
		either(t, "lent part", n >= -1, set(at(1), R{Kind: mir.Borrow, Place: at(1, n), Mut: true}))
		either(t, "copied part", n >= -1, I{Kind: mir.If, Cond: cp(at(1, 0, n))})
	}
}

// P14.1: what isn't of a kind isn't looked at.
func TestCheckOther(t *testing.T) {
	odd := I{Local: 99, Dest: at(-4, -5), R: R{Kind: 77, Args: []O{{Kind: 9}}}, Cond: O{Kind: 8}, To: 99, Else: -9}
	for _, kind := range []int{mir.Return, mir.Abort} {
		odd.Kind = kind
		may(t, "no parts", odd)
	}
	odd.Kind, odd.Local = mir.Live, 3
	may(t, "live", odd)
	odd.Kind, odd.Local, odd.To = mir.Jump, 99, 2
	may(t, "jump", odd)
	odd.Kind, odd.Else, odd.Cond = mir.If, 1, O{Kind: mir.Const, Type: types.Bool, Place: at(-3)}
	may(t, "if", odd)
	odd = I{Kind: mir.Assign, Local: 99, Cond: O{Kind: 8}, To: 99, Else: -9}
	odd.R = R{Kind: mir.Use, Args: []O{{Kind: mir.Copy, Type: 88}}, Place: at(99, -7), Name: "x", N: -1, Types: []types.Type{{}}}
	may(t, "use", odd)
}

// P14.1: as many operands as are told; Invoke has one at least, and a method's number.
func TestCheckCounts(t *testing.T) {
	counts := map[int][2]int{ // the fewest, the most
		mir.Use: {1, 1}, mir.Borrow: {0, 0}, mir.Bin: {2, 2}, mir.Un: {1, 1}, mir.NewBox: {1, 1}, mir.Unbox: {1, 1},
		mir.Make: {0, 99}, mir.Call: {0, 99}, mir.Invoke: {1, 99}, mir.Choose: {0, 0}, mir.Coerce: {1, 1},
	}
	for kind := -2; kind < 15; kind++ {
		for n := range 12 {
			args := make([]O, n)
			for i := range args {
				args[i] = con(types.Int, 1)
			}
			l, is := counts[kind]
			either(t, "count", is && n >= l[0] && n <= l[1], set(at(1), R{Kind: kind, Args: args}))
		}
	}
	for _, n := range []int{-1, -1 << 40} {
		mayNot(t, "no such method", set(at(1), R{Kind: mir.Invoke, N: n, Args: []O{cp(at(1))}}))
		may(t, "of others N is nothing", set(at(1), R{Kind: mir.Call, N: n, Args: []O{cp(at(1))}}))
	}
	may(t, "a great number", set(at(1), R{Kind: mir.Invoke, N: 1 << 40, Args: []O{cp(at(1))}}))
	mayNot(t, "the last of many", set(at(1), R{Kind: mir.Call, Args: []O{cp(at(1)), cp(at(0)), cp(at(4))}}))
}

// P14.1: the first is told; the last may not go on behind the end.
func TestCheckFirst(t *testing.T) {
	live, wrong := I{Kind: mir.Live}, I{Kind: mir.Live, Local: 9}
	check(t, "two", body(2, live, live, wrong, live, wrong, ret()), 2)
	check(t, "at once", body(2, wrong, wrong), 0)
	check(t, "behind the end", body(2, live, live), 1)
	check(t, "alone behind the end", body(2, live), 0)
	check(t, "not come to", body(2, ret(), wrong, ret()), 1)
	for _, c := range []I{ret(), {Kind: mir.Abort}, {Kind: mir.Jump}, {Kind: mir.If, Cond: cp(at(0)), To: 1}} {
		check(t, "last", body(2, live, c), -1)
	}
	check(t, "one instruction", body(1, ret()), -1)
	check(t, "one local", body(1, set(at(0), R{Kind: mir.Choose}), ret()), -1)
}
