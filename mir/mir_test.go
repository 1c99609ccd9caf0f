package mir_test

import (
	"math/rand"
	"reflect"
	"slices"
	"testing"

	"chattel/api"
	"chattel/mir"
	"chattel/types"
)

type (
	B = mir.Body
	I = mir.Instr
	O = mir.Operand
	R = mir.Right
)

func at(local int, path ...int) mir.Place { return mir.Place{Local: local, Path: path} }

func cp(p mir.Place) O { return O{Kind: mir.Copy, Place: p} }

func mv(p mir.Place) O { return O{Kind: mir.Move, Place: p} }

func con(kind int, n uint64) O { return O{Kind: mir.Const, Type: kind, N: n} }

func set(p mir.Place, r R) I { return I{Kind: mir.Assign, Dest: p, R: r} }

// body: of so many locals, the first half parameters.
func body(locals int, code ...I) *B {
	return &B{Name: "f", Params: (locals - 1) / 2, Locals: make([]mir.Local, locals), Code: code}
}

func ret() I { return I{Kind: mir.Return} }

func TestKinds(t *testing.T) {
	kinds := [][]int{
		{mir.Const, mir.Copy, mir.Move},
		{mir.Use, mir.Borrow, mir.Bin, mir.Un, mir.NewBox, mir.Unbox, mir.Make, mir.Call, mir.Invoke, mir.Choose, mir.Coerce},
		{mir.Live, mir.Dead, mir.Assign, mir.Jump, mir.If, mir.Return, mir.Abort},
		{mir.Reads, mir.Takes, mir.Lends, mir.Sets, mir.Opens, mir.Shuts},
	}
	for _, l := range kinds {
		for i, n := range l {
			if n != i+1 {
				t.Error(l)
			}
		}
	}
	if mir.Deref != -1 {
		t.Error(mir.Deref)
	}
}

// P14.1: where each kind of instruction goes on, there or not.
func TestSucc(t *testing.T) {
	b := body(3,
		I{Kind: mir.Live, Local: 1, To: 5, Else: 6}, I{Kind: mir.Dead, To: 5}, I{Kind: mir.Assign, To: 5}, I{Kind: mir.Jump, To: 7, Else: 2},
		I{Kind: mir.If, To: 2, Else: 0}, I{Kind: mir.If, To: 3, Else: 3}, I{Kind: mir.Return, To: 1}, I{Kind: mir.Abort, To: 1},
		I{To: 3}, I{Kind: 8, To: 3}, I{Kind: -1}, I{Kind: mir.Jump, To: -4}, I{Kind: mir.If, To: 99, Else: 98}, I{Kind: mir.Live})
	want := [][]int{{1}, {2}, {3}, {7}, {2, 0}, {3}, nil, nil, {9}, {10}, {11}, {-4}, {99, 98}, {14}}
	for i := -3; i < len(b.Code)+3; i++ {
		var w []int
		if i >= 0 && i < len(want) {
			w = want[i]
		}
		if got := mir.Succ(b, i); !slices.Equal(got, w) {
			t.Error(i, got, w)
		}
		if len(mir.Succ(nil, i)) != 0 || len(mir.Succ(&B{}, i)) != 0 {
			t.Error("a way from nowhere", i)
		}
	}
}

// P14.1: places within places; the chapter's example.
func TestPlaces(t *testing.T) {
	tests := []struct {
		a, b          mir.Place
		begins, meets bool
	}{
		{at(1, 0), at(1, 0, -1), true, true},
		{at(1, 0), at(1, 1), false, false},
		{at(1, 0, -1), at(1, 0), false, true},
		{at(1), at(1), true, true},
		{at(1), at(2), false, false},
		{at(0), at(0, -1, 3, 4), true, true},
		{at(0, -1, 3), at(0, -1, 4), false, false},
		{at(0, -1, 3), at(0, -1, 3), true, true},
		{at(0, 3), at(1, 3), false, false},
		{at(0), at(1, 3), false, false},
		{at(-5, -7), at(-5, -7, 1<<40), true, true},
		{at(1, 0, 1), at(1, 1, 1), false, false},
		{at(1, 1, 1), at(1, 0), false, false},
	}
	for _, w := range tests {
		if mir.Begins(w.a, w.b) != w.begins || mir.Meet(w.a, w.b) != w.meets || mir.Meet(w.b, w.a) != w.meets {
			t.Error(w.a, w.b)
		}
	}
}

func samePlace(a, b mir.Place) bool { return a.Local == b.Local && slices.Equal(a.Path, b.Path) }

// P14.1: a place up to its first Deref.
func TestOwn(t *testing.T) {
	tests := [][2]mir.Place{
		{at(1), at(1)}, {at(2, 0, 1), at(2, 0, 1)}, {at(2, -1), at(2)}, {at(2, 0, -1, 1, -1), at(2, 0)},
		{at(3, -2, 4), at(3, -2, 4)}, {at(-3, 0, 0, -1), at(-3, 0, 0)}, {mir.Place{}, mir.Place{}},
	}
	for _, w := range tests {
		if got := mir.Own(w[0]); !samePlace(got, w[1]) {
			t.Error(w[0], got)
		}
	}
	path := []int{4, 5, -1, 6}
	own := mir.Own(mir.Place{Path: path})
	_ = append(own.Path, 9)
	own.Path[0] = 9
	if !slices.Equal(path, []int{4, 5, -1, 6}) {
		t.Error("a path is shared", path)
	}
}

func accesses(t *testing.T, b *B, i int, want ...mir.Access) {
	t.Helper()
	got := mir.Accesses(b, i)
	if !slices.EqualFunc(got, want, func(a, b mir.Access) bool { return a.Kind == b.Kind && samePlace(a.Place, b.Place) }) {
		t.Error(i, got, want)
	}
}

// P14.1: what each kind of instruction does to places, in order.
func TestAccesses(t *testing.T) {
	x, y := at(1, 0, -1), at(2)
	do := func(p mir.Place, kind int) mir.Access { return mir.Access{Place: p, Kind: kind} }
	b := body(4,
		I{Kind: mir.Live, Local: 2, Dest: y, Cond: cp(x)},
		I{Kind: mir.Dead, Local: 3, Dest: y, Cond: cp(x)},
		I{Kind: mir.If, Local: 1, Cond: cp(x), Dest: y},
		I{Kind: mir.If, Cond: mv(y)},
		I{Kind: mir.If, Cond: con(types.Bool, 1)},
		I{Kind: mir.If, Cond: O{Kind: 4, Place: y}},
		I{Kind: mir.Return, Local: 2, Cond: cp(y)},
		I{Kind: mir.Jump, Local: 2, Cond: cp(y), Dest: x},
		I{Kind: mir.Abort, Local: 2, Cond: cp(y), Dest: x},
		I{Kind: 8, Local: 2, Cond: cp(y)},
		I{Local: 2, Cond: cp(y)},
		set(y, R{Kind: mir.Use, Args: []O{con(types.Int, 1)}, Place: x}),
		set(x, R{Kind: mir.Bin, Name: "+", Args: []O{cp(x), mv(y)}, Mut: true}),
		set(y, R{Kind: mir.Borrow, Place: x}),
		set(y, R{Kind: mir.Borrow, Place: x, Mut: true}),
		set(y, R{Kind: mir.Borrow, Place: x, Mut: true, Args: []O{mv(y), cp(x)}}),
		set(x, R{Kind: mir.Call, Args: []O{mv(y), con(types.Unit, 0), cp(x), mv(x), {Kind: 0, Place: y}, {Kind: -1, Place: y}}}),
		set(at(9), R{}),
		I{Kind: mir.Assign, Local: 3, Cond: cp(y), R: R{Kind: mir.Choose}},
	)
	want := [][]mir.Access{
		{do(y, mir.Opens)}, {do(at(3), mir.Shuts)},
		{do(x, mir.Reads)}, {do(y, mir.Takes)}, nil, nil,
		{do(at(0), mir.Takes), do(at(1), mir.Shuts), do(at(2), mir.Shuts), do(at(3), mir.Shuts)},
		nil, nil, nil, nil,
		{do(y, mir.Sets)},
		{do(x, mir.Reads), do(y, mir.Takes), do(x, mir.Sets)},
		{do(x, mir.Reads), do(y, mir.Sets)},
		{do(x, mir.Lends), do(y, mir.Sets)},
		{do(y, mir.Takes), do(x, mir.Reads), do(x, mir.Lends), do(y, mir.Sets)},
		{do(y, mir.Takes), do(x, mir.Reads), do(x, mir.Takes), do(x, mir.Sets)},
		{do(at(9), mir.Sets)},
		{do(at(0), mir.Sets)},
	}
	for i, w := range want {
		accesses(t, b, i, w...)
	}
	for _, i := range []int{-1, len(b.Code), 1 << 40} {
		accesses(t, b, i)
		accesses(t, nil, i)
	}
	accesses(t, nil, 0)
	accesses(t, &B{}, 0)
	accesses(t, body(1, ret()), 0, do(at(0), mir.Takes))
	accesses(t, &B{Code: []I{ret()}}, 0, do(at(0), mir.Takes))
}

// P1: an answer is new memory.
func TestAccessesNew(t *testing.T) {
	b := body(4, set(at(1, 2, 3), R{Kind: mir.Borrow, Place: at(1, 4, 5), Args: []O{cp(at(2, 6, 7))}}))
	text := mir.Text(b)
	for _, a := range mir.Accesses(b, 0) {
		a.Place.Path[0] = 99
		_ = append(a.Place.Path[:1], 98)
	}
	if mir.Text(b) != text {
		t.Error("an answer shares a body's memory")
	}
}

// P14.1: which instructions may be come to.
func TestReach(t *testing.T) {
	jump := func(to int) I { return I{Kind: mir.Jump, To: to} }
	tests := []struct {
		code []I
		want []int
	}{
		{nil, nil},
		{[]I{ret()}, []int{0}},
		{[]I{ret(), ret()}, []int{0}},
		{[]I{jump(2), ret(), jump(0)}, []int{0, 2}},
		{[]I{{Kind: mir.If, To: 3, Else: 1}, {Kind: mir.Abort}, ret(), jump(3)}, []int{0, 1, 3}},
		{[]I{{Kind: mir.Live}, {Kind: mir.Dead}, {}, {Kind: 9}}, []int{0, 1, 2, 3}},
		{[]I{jump(-1), ret()}, []int{0}},
		{[]I{jump(2), ret()}, []int{0}},
		{[]I{{Kind: mir.If, To: 7, Else: 2}, ret(), ret()}, []int{0, 2}},
		{[]I{jump(0)}, []int{0}},
	}
	for i, w := range tests {
		got := mir.Reach(body(2, w.code...))
		if len(got) != len(w.code) {
			t.Error(i, got)
		}
		for n, is := range got {
			if is != slices.Contains(w.want, n) {
				t.Error(i, n, got)
			}
		}
	}
	if len(mir.Reach(nil)) != 0 {
		t.Error("of nil")
	}
	long := make([]I, 1<<16)
	for i := range long {
		long[i] = I{Kind: mir.If, To: i + 1, Else: i / 2}
	}
	if slices.Contains(mir.Reach(body(2, long...)), false) {
		t.Error("a long way")
	}
}

// P14.1: random graphs: what is reached is the first one, and what what is reached goes on to, and no more.
func TestReachRandom(t *testing.T) {
	for seed := range 2000 {
		r := rand.New(rand.NewSource(int64(seed)))
		code := make([]I, 1+r.Intn(9))
		for i := range code {
			code[i] = I{Kind: 1 + r.Intn(8), To: r.Intn(10) - 1, Else: r.Intn(10) - 1}
		}
		b := body(2, code...)
		want := make([]bool, len(code))
		want[0] = true
		for range code {
			for i := range code {
				for _, n := range mir.Succ(b, i) {
					if want[i] && n >= 0 && n < len(code) {
						want[n] = true
					}
				}
			}
		}
		if !slices.Equal(mir.Reach(b), want) {
			t.Fatal(seed)
		}
	}
}

func TestAliases(t *testing.T) {
	var b api.Body = mir.Body{}
	if !reflect.DeepEqual(b, api.Body{}) {
		t.Error(b)
	}
}
