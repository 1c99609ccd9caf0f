package mir_test

import (
	"fmt"
	"math/rand"
	"reflect"
	"slices"
	"strings"
	"testing"

	"chattel/api"
	"chattel/mir"
	"chattel/types"
)

func str(name string, regions []int, args ...types.Type) types.Type {
	return types.Type{Kind: types.Struct, Name: name, Regions: regions, Args: args}
}

// bodies that are unlike one another, most of them but by one thing, that may be or not.
func unlike() []B {
	x := types.Type{Kind: types.Int}
	l := []B{{}, {Name: "f"}, {Name: "fn"}, {Params: 1}, {Name: "1", Params: 1}, {Name: "", Params: 11}}
	for _, y := range []types.Type{
		{}, x, {Kind: types.Box}, {Kind: types.Box, Args: []types.Type{x}}, {Kind: types.Box, Region: 2, Args: []types.Type{x}},
		{Kind: types.Int, Region: 1}, {Kind: types.Int, Regions: []int{1}}, {Kind: types.Ref, Mut: true}, {Kind: types.Ref}, {Kind: 12}, {Kind: 1, Args: []types.Type{{Kind: 2}}},
		str("S", []int{1, 2}), str("S'1", []int{2}), str("S", []int{12}), str("S '1", []int{2}), str("S", []int{1}, x), str("S", nil, x, x),
		str("S", nil, str("", nil, x), x), str("S", nil, str("", nil, x, x)), str("S\"", nil), str("S", nil, x, types.Type{}), str("S", nil, types.Type{}),
		str("S<int>", nil), str("int", nil), {Kind: types.Param, Name: "int"}, {Kind: types.Dyn, Name: "int"}, {Kind: types.Int, Name: "int"},
	} {
		l = append(l, B{Locals: []mir.Local{{Type: y}}}, B{Locals: []mir.Local{{Type: y}, {}}}, B{Locals: []mir.Local{{}, {Type: y}}},
			B{Code: []I{{R: R{Types: []types.Type{y}}}}}, B{Code: []I{{R: R{Types: []types.Type{y, {}}}}}}, B{Code: []I{{R: R{Kind: 7, Types: []types.Type{y}}}}})
	}
	for _, name := range []string{"a", "a\n", "\n", "a:", "_1", "0", "é", "\xff", "\\", "\"", "a\"", "a, b", "a,b", ",", "<", "'", "a\nb"} {
		l = append(l, B{Locals: []mir.Local{{Name: name}}}, B{Locals: []mir.Local{{Name: name}, {Name: name}}}, B{Code: []I{{R: R{Name: name}}}}, B{Name: name})
	}
	for _, c := range instrs() {
		l = append(l, B{Code: []I{c}}, B{Code: []I{c, {}}}, B{Code: []I{{}, c}}, B{Locals: []mir.Local{{}}, Code: []I{c}})
	}
	return l
}

// instrs that are unlike one another, and not the one that is nothing.
func instrs() []I {
	var l []I
	for kind := range 10 {
		for i := range parts() {
			c := parts()[i]
			if c.Kind = kind; i > 0 || kind > 0 {
				l = append(l, c)
			}
		}
	}
	return l
}

func parts() []I {
	l := []I{{}, {Local: 1}, {Local: -1}, {To: 1}, {Else: 1}, {To: 1, Else: 1}, {To: -1}, {Else: -11}, {Local: 1, To: 1}, {Dest: at(0, 0, 0)}, {Dest: at(0, -1)}}
	for _, p := range []mir.Place{at(1), at(0, 0), at(0, 1), at(0, 1, 1), at(0, 11), at(1, 1), at(11), at(-1)} {
		l = append(l, I{Dest: p}, I{R: R{Place: p}}, I{R: R{Kind: mir.Borrow, Place: p}}, I{R: R{Kind: mir.Use, Place: p}})
		for kind := range 5 {
			o := O{Kind: kind, Place: p}
			l = append(l, I{Cond: o}, I{R: R{Args: []O{o}}}, I{R: R{Args: []O{o, o}}}, I{R: R{Args: []O{{}, o}}}, I{R: R{Kind: mir.Call, Args: []O{o}}})
		}
	}
	for _, o := range []O{{Type: 1}, {N: 1}, {N: 1 << 63}, {N: 1<<63 + 1}, {N: 1<<64 - 1}, {Type: 5}, {Type: -1}, {Kind: mir.Const}, {Kind: mir.Const, Type: 1, N: 1}, {Kind: mir.Const, N: 11}, {Kind: mir.Move, N: 1}, {Kind: 14}} {
		l = append(l, I{Cond: o}, I{R: R{Args: []O{o}}}, I{R: R{Args: []O{o, {}}}}, I{R: R{Args: []O{{}, {}, o}}})
	}
	for kind := 1; kind < 14; kind++ {
		l = append(l, I{R: R{Kind: kind}}, I{R: R{Kind: kind, Mut: true}}, I{R: R{Kind: kind, N: 1}}, I{R: R{Kind: kind, Name: "x"}})
	}
	return append(l, I{R: R{Kind: -1}}, I{R: R{Mut: true}}, I{R: R{N: 1}}, I{R: R{N: -1}}, I{R: R{Name: "mut"}}, I{R: R{Args: []O{{}}}}, I{R: R{Args: []O{{}, {}}}})
}

// P14.1: unlike bodies have unlike texts.
func TestTextUnlike(t *testing.T) {
	seen := map[string]B{}
	for _, b := range unlike() {
		s := mir.Text(&b)
		if other, is := seen[s]; is && !reflect.DeepEqual(other, b) {
			t.Errorf("%q\n%+v\n%+v", s, other, b)
		}
		seen[s] = b
	}
}

// P14.1: a body's text tells nothing of At, and nil and empty lists are one.
func TestTextSame(t *testing.T) {
	a := body(2, set(at(1, 0), R{Kind: mir.Call, Name: "g", Args: []O{cp(at(1))}, Types: []types.Type{{Kind: types.Int}}}), ret())
	b := body(2, slices.Clone(a.Code)...)
	for i := range b.Code {
		b.Code[i].At = api.Pos{Line: i, Col: 7}
	}
	b.Locals = []mir.Local{{At: api.Pos{Line: 1}}, {At: api.Pos{Col: 1}}}
	if mir.Text(a) != mir.Text(b) {
		t.Error(mir.Text(a), mir.Text(b))
	}
	b.Locals[0].Type = types.Type{Regions: []int{}, Args: []types.Type{}}
	b.Code[1] = I{Kind: mir.Return, Dest: mir.Place{Path: []int{}}, Cond: O{Place: mir.Place{Path: []int{}}}, R: R{Args: []O{}, Types: []types.Type{}, Place: mir.Place{Path: []int{}}}}
	if mir.Text(a) != mir.Text(b) {
		t.Error("empty lists aren't nil ones", mir.Text(a), mir.Text(b))
	}
	if mir.Text(nil) != "" {
		t.Error(mir.Text(nil))
	}
}

// P14.1: a line each of locals and instructions, that tell what is in them.
func TestText(t *testing.T) {
	b := &B{Name: "f", Params: 1, Locals: []mir.Local{{Type: types.Type{Kind: types.Int}}, {Name: "x", Type: types.Type{Kind: types.Ref, Region: 2, Mut: true, Args: []types.Type{{Kind: types.Int}}}}}}
	b.Code = []I{set(at(0), R{Kind: mir.Bin, Name: "+", Args: []O{cp(at(1, -1)), con(types.Int, 1<<64-5)}}), {Kind: mir.If, Cond: mv(at(1, 0)), To: 2}, {Kind: mir.Live, Local: 0}, ret()}
	want := `fn "f" 1
_0 "" int
_1 "x" ref mut '2 < int >
0 assign set _0 = bin "+" ( copy _1.-1, const : int # -5 )
1 if cond move _1.0 to 2 else 0
2 live _0
3 return
`
	if got := mir.Text(b); got != want {
		t.Error(got)
	}
}

// walk is a body of small parts, made at random.
type walk struct{ r *rand.Rand }

func (w walk) n() int { return []int{0, 0, 0, 1, 1, 2, -1, 11}[w.r.Intn(8)] }

func (w walk) name() string { return []string{"", "", "a", "aa", "_1", "<"}[w.r.Intn(6)] }

func (w walk) place() mir.Place {
	p := mir.Place{Local: w.n()}
	for range w.r.Intn(3) {
		p.Path = append(p.Path, w.n())
	}
	return p
}

func (w walk) operand() O {
	if w.r.Intn(3) == 0 {
		return O{}
	}
	return O{Kind: w.r.Intn(5), Place: w.place(), Type: w.n(), N: uint64(w.n())}
}

func (w walk) typ(deep int) types.Type {
	t := types.Type{Kind: w.r.Intn(11), Name: w.name(), Mut: w.r.Intn(3) == 0, Region: w.n()}
	for range w.r.Intn(3) {
		t.Regions = append(t.Regions, w.n())
	}
	for range w.r.Intn(3) * deep {
		t.Args = append(t.Args, w.typ(deep-1))
	}
	return t
}

func (w walk) body() B {
	b := B{Name: w.name(), Params: w.n()}
	for range w.r.Intn(3) {
		b.Locals = append(b.Locals, mir.Local{Name: w.name(), Type: w.typ(1)})
	}
	for range w.r.Intn(3) {
		c := I{Kind: w.r.Intn(9), Local: w.n(), Dest: w.place(), Cond: w.operand(), To: w.n(), Else: w.n()}
		c.R = R{Kind: w.r.Intn(13), Place: w.place(), Mut: w.r.Intn(2) == 0, Name: w.name(), N: w.n()}
		for range w.r.Intn(3) {
			c.R.Args = append(c.R.Args, w.operand())
			c.R.Types = append(c.R.Types, w.typ(1))
		}
		b.Code = append(b.Code, c)
	}
	return b
}

// spoil changes one thing, at whatever depth.
func (w walk) spoil(v reflect.Value) {
	switch v.Kind() {
	case reflect.Struct:
		w.spoil(v.Field(w.r.Intn(v.NumField())))
	case reflect.Slice:
		if n := v.Len(); n > 0 && w.r.Intn(4) > 0 {
			w.spoil(v.Index(w.r.Intn(n)))
		} else {
			v.Set(reflect.Append(v, reflect.Zero(v.Type().Elem())))
		}
	case reflect.Int:
		v.SetInt(v.Int() + int64(w.r.Intn(2)*2-1))
	case reflect.Uint64:
		v.SetUint(v.Uint() ^ 1<<w.r.Intn(64))
	case reflect.Bool:
		v.SetBool(!v.Bool())
	case reflect.String:
		v.SetString(v.String() + string("a1'_.<>,\"\n"[w.r.Intn(10)]))
	}
}

// P14.1: a body in which one thing is changed has another text, unless it is an At.
func TestTextSpoilt(t *testing.T) {
	for seed := range 20000 {
		a, b := walk{rand.New(rand.NewSource(int64(seed)))}, walk{rand.New(rand.NewSource(int64(seed)))}
		x, y := a.body(), b.body()
		a.spoil(reflect.ValueOf(&x).Elem())
		same := reflect.DeepEqual(noAt(x), noAt(y))
		if (mir.Text(&x) == mir.Text(&y)) != same {
			t.Fatalf("%d\n%+v\n%+v\n%s", seed, x, y, mir.Text(&x))
		}
	}
}

func noAt(b B) B {
	b.Locals, b.Code = slices.Clone(b.Locals), slices.Clone(b.Code)
	for i := range b.Locals {
		b.Locals[i].At = api.Pos{}
	}
	for i := range b.Code {
		b.Code[i].At = api.Pos{}
	}
	return b
}

// P14.1: all unlike ones of many bodies at random have unlike texts.
func TestTextRandom(t *testing.T) {
	seen := map[string]string{}
	for seed := range 30000 {
		w := walk{rand.New(rand.NewSource(int64(seed)))}
		b := w.body()
		s, all := mir.Text(&b), fmt.Sprintf("%#v", b)
		if other, is := seen[s]; is && other != all {
			t.Fatal(s, other, all)
		}
		seen[s] = all
	}
}

// Types nested 2^16 deep.
func TestTextDeep(t *testing.T) {
	x := types.Type{Kind: types.Int}
	for range 1 << 16 {
		x = types.Type{Kind: types.Box, Args: []types.Type{x}}
	}
	b := &B{Locals: []mir.Local{{Type: x}}, Code: []I{{R: R{Types: []types.Type{x}}}}}
	if s := mir.Text(b); strings.Count(s, "box") != 2<<16 {
		t.Error(len(s))
	}
}
