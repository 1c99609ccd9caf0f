package lower_test

import (
	"slices"
	"testing"

	"chattel/lower"
	"chattel/mir"
	"chattel/pick"
	"chattel/sigs"
	"chattel/tree"
	"chattel/types"
)

// typer looks at what was lowered: is it typed? It panics with what isn't.
type typer struct {
	p   pick.Picker
	job lower.Job
	b   *mir.Body
}

// untyped: what isn't typed of a piece; "": all is.
func untyped(p piece) (wrong string) {
	defer func() {
		if s, ok := recover().(string); ok {
			wrong = s
		}
	}()
	t := typer{pick.Picker{Env: p.env, Bounds: p.job.Sig.Bounds}, p.job, p.done.Body}
	need(mir.Check(t.b) == -1, "may not be")
	t.frame()
	t.locals()
	opened := map[int]int{}
	for _, c := range t.b.Code {
		t.instr(c)
		if c.Kind == mir.Live {
			opened[c.Local]++
			need(opened[c.Local] == 1 || len(types.All(t.b.Locals[c.Local].Type)) == 0, "two uses of a local share regions")
		}
	}
	t.paths()
	return ""
}

func need(ok bool, s string) {
	if !ok {
		panic(s)
	}
}

// frame: how it begins and ends, and where it goes back.
func (t typer) frame() {
	need(t.b.Name == t.job.Name && t.b.Params == len(t.job.Sig.Params), "name or params")
	last := t.b.Code[len(t.b.Code)-1]
	kind := mir.Abort
	if t.job.Sig.Ret.Kind == types.Unit {
		kind = mir.Return
	}
	need(last.Kind == kind && last.At == t.job.At, "its end")
	back := 0
	for i := range t.b.Code {
		for _, n := range mir.Succ(t.b, i) {
			if n <= i {
				back++
			}
		}
	}
	need(back == loops(t.job.Body), "goes back")
}

// loops: how many statements are a while.
func loops(l []tree.Stmt) int {
	n := 0
	for _, s := range l {
		if s.Kind == tree.SWhile {
			n++
		}
		n += loops(s.Body) + loops(s.Else)
	}
	return n
}

func (t typer) locals() {
	s := t.job.Sig
	need(types.Equal(t.b.Locals[0].Type, s.Ret), "what is answered")
	for i, l := range t.b.Locals[1:] {
		if i < len(s.Params) {
			need(types.Equal(l.Type, s.Params[i]) && l.Name == t.job.Names[i], "a parameter")
			continue
		}
		for _, r := range types.All(l.Type) {
			need(r == sigs.Fresh || r >= 0 && r <= len(t.job.Lifes), "a region of a local")
		}
	}
}

// paths: no two places share memory.
func (t typer) paths() {
	var all []*int
	see := func(p mir.Place) {
		if len(p.Path) > 0 {
			all = append(all, &p.Path[0])
		}
	}
	for _, c := range t.b.Code {
		see(c.Dest)
		see(c.R.Place)
		see(c.Cond.Place)
		for _, o := range c.R.Args {
			see(o.Place)
		}
	}
	for i, p := range all {
		need(!slices.Contains(all[:i], p), "places share memory")
	}
}

func (t typer) at(p mir.Place) T {
	x, ok := t.p.At(t.b.Locals[p.Local].Type, p.Path)
	need(ok, "no place")
	return x
}

func (t typer) operand(o mir.Operand) T {
	if o.Kind == mir.Const {
		return T{Kind: o.Type}
	}
	x := t.at(o.Place)
	need(types.Copies(x) == (o.Kind == mir.Copy), "copied or moved")
	need(o.Kind == mir.Copy || !slices.Contains(o.Place.Path, mir.Deref), "moved from behind a pointer")
	return x
}

func (t typer) writes(p mir.Place) {
	need(t.p.Lets(t.b.Locals[p.Local].Type, p.Path), "may not be written")
}

func (t typer) instr(c mir.Instr) {
	switch c.Kind {
	case mir.Live, mir.Dead:
		need(c.Local > t.b.Params, "a parameter is there always")
	case mir.If:
		need(t.operand(c.Cond).Kind == types.Bool, "a condition")
	case mir.Assign:
		t.writes(c.Dest)
		dest := t.at(c.Dest)
		need(dest.Kind != types.Dyn, "a dyn is set")
		var args []T
		for _, o := range c.R.Args {
			args = append(args, t.operand(o))
		}
		if c.R.Kind == mir.Coerce {
			need(t.p.Becomes(args[0], dest), "becomes")
			return
		}
		if x := t.right(c.R, args); !types.Same(x, dest) {
			panic(types.Text(x) + " is set to " + types.Text(dest))
		}
	}
}

func ref(mut bool, t T) T { return T{Kind: types.Ref, Mut: mut, Args: []T{t}} }

// right: the type of a right side.
func (t typer) right(r mir.Right, args []T) T {
	switch r.Kind {
	case mir.Use:
		return args[0]
	case mir.Borrow:
		if r.Mut {
			t.writes(r.Place)
		}
		return ref(r.Mut, t.at(r.Place))
	case mir.Bin, mir.Un:
		return operator(r.Name, args)
	case mir.NewBox:
		return T{Kind: types.Box, Args: args}
	case mir.Unbox:
		need(args[0].Kind == types.Box, "no Box")
		return args[0].Args[0]
	case mir.Make:
		s, ok := t.p.Env.Struct(r.Name)
		need(ok && len(r.Types) == len(s.Types), "no struct, or other types")
		var fields []T
		for _, f := range s.Fields {
			fields = append(fields, f.Type)
		}
		given(s.Types, r.Types, fields, args)
		return types.Inst(sigs.TypeOf(s), nil, s.Types, r.Types)
	case mir.Call:
		f, ok := t.p.Env.Fn(r.Name)
		need(ok && len(r.Types) == len(f.Sig.Types), "no function, or other types")
		given(f.Sig.Types, r.Types, f.Sig.Params, args)
		for _, b := range f.Sig.Bounds {
			need(t.p.Has(r.Types[slices.Index(f.Sig.Types, b.Type)], b.Trait), "a bound")
		}
		return types.Inst(f.Sig.Ret, nil, f.Sig.Types, r.Types)
	case mir.Invoke:
		return t.invoke(r, args)
	case mir.Choose:
		return T{Kind: types.Bool}
	}
	panic("a right side")
}

// given: arguments are of the types that are asked for.
func given(names []string, stand, want, have []T) {
	need(len(want) == len(have), "another number")
	for i, w := range want {
		need(types.Same(types.Inst(w, nil, names, stand), have[i]), "an argument")
	}
}

func (t typer) invoke(r mir.Right, args []T) T {
	trait, ok := t.p.Env.Trait(r.Name)
	need(ok && r.N < len(trait.Methods), "no method")
	m := trait.Methods[r.N]
	self := args[0]
	if m.Recv != tree.Own {
		need(self.Kind == types.Ref && self.Mut == (m.Recv == tree.Unique), "another object")
		self = self.Args[0]
	}
	need(t.p.Has(self, r.Name), "it hasn't the trait")
	given(nil, nil, m.Sig.Params, args[1:])
	return m.Sig.Ret
}

func operator(op string, args []T) T {
	of := args[0].Kind
	number, truth := of == types.Int || of == types.Float, of == types.Bool
	need(len(args) == 1 || args[1].Kind == of, "unlike parts")
	if len(args) == 1 {
		need(op == "-" && number || op == "!" && truth, "an operator")
		return args[0]
	}
	switch op {
	case "+", "-", "*", "/":
		need(number, op)
		return args[0]
	case "<":
		need(number, op)
	case "==":
		need(number || truth, op)
	case "&&", "|":
		need(truth, op)
	default:
		panic("an operator")
	}
	return T{Kind: types.Bool}
}

// P18.1: what is answered, and parameters, have the signature's regions; others those of lifetimes that have names, and regions of their own.
func TestRegions(t *testing.T) {
	const ahead = "struct R < 'x , 'y , T > { r : & 'x T , s : & 'y int } trait Q { } fn f < 'a , 'b , T > ( p : & 'b T , q : & int , r : R < 'a , 'b , T > , t : T ) -> & 'a T { "
	for _, c := range []struct {
		text string
		want []int
	}{
		{"let x : & 'a & 'b int ;", []int{1, 2}}, {"let x : & 'static & int ;", []int{0, -1}}, {"let x : R < 'b , 'static , & 'a int > ;", []int{2, 0, 1}}, {"let x : R < int > ;", []int{-1, -1}}, {"let x : & 'a dyn Q ;", []int{1, 1}},
		{"let x : & dyn Q ;", []int{-1, -1}}, {"let x : Box < dyn Q > ;", []int{0}}, {"let x : Box < dyn Q + 'b > ;", []int{2}}, {"let x : & dyn Q + 'a ;", []int{-1, 1}}, {"let x = p ;", []int{-1, -1}}, {"let x = & p ;", []int{-1, -1, -1}}, {"let x = r ;", []int{-1, -1, -1}},
		{"let x = q ;", []int{-1}}, {"let x : & 'a int ; let x = x ;", []int{-1}}, {"let x = t ;", []int{-1}}, {"let x = 1 ;", nil}, {"let x : & 'b int = q ;", []int{2}}, {"let x = r . s ;", []int{-1}}, {"& q ;", []int{-1, -1}},
	} {
		l := all(t, ahead+c.text+" abort ; }")
		b := l[0].done.Body
		if got := types.All(b.Locals[len(b.Locals)-1].Type); !slices.Equal(got, c.want) {
			t.Errorf("%s: %v, want %v", c.text, got, c.want)
		}
		for i, want := range [][]int{{1, 4}, {2, 4}, {3}, {1, 2, 4}, {4}} {
			if got := types.All(b.Locals[i].Type); !slices.Equal(got, want) {
				t.Errorf("%d: %v, want %v", i, got, want)
			}
		}
	}
}

// P18.1: values are taken one ahead of the other also where layers 21 and 22 look: what is read through something that is lent is read ahead of all else that its instruction reads, and of what that sets, for it may be lent just that.
func TestTaken(t *testing.T) {
	for _, text := range texts() {
		for _, p := range all(t, text) {
			b := p.done.Body
			for i, c := range b.Code {
				if c.Kind == mir.Assign && tangled(b, i) {
					t.Fatalf("%s: %s: %d\n%s", text, p.job.Name, i, mir.Text(b))
				}
			}
		}
	}
}

func tangled(b *mir.Body, i int) bool {
	c := b.Code[i]
	far := func(o mir.Operand) bool {
		return len(o.Place.Path) > 0 && len(types.All(b.Locals[o.Place.Local].Type)) > 0
	}
	args := c.R.Args
	if c.R.Kind == mir.Invoke {
		args = args[1:] // the object is taken last
	}
	// What has no name is lent to nobody either, where it is an operand.
	named := func(o mir.Operand) bool {
		return o.Kind != mir.Const && (o.Place.Local <= b.Params || b.Locals[o.Place.Local].Name != "")
	}
	for k, o := range args {
		if far(o) && slices.ContainsFunc(args[k+1:], named) {
			return true
		}
	}
	// What was opened just now, and what is answered, is lent to nobody.
	fresh := c.Dest.Local == 0 || i > 0 && b.Code[i-1].Kind == mir.Live && b.Code[i-1].Local == c.Dest.Local
	return !fresh && slices.ContainsFunc(args, far)
}
