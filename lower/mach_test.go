package lower_test

import (
	"testing"

	"chattel/heap"
	"chattel/lower"
	"chattel/mir"
	"chattel/num"
	"chattel/sigs"
	"chattel/tree"
	"chattel/types"
)

// machine runs what was lowered, as layer 24 does. What no body that was lowered does (a local that is there and is opened, or one that isn't and is shut) is a fault.
type machine struct {
	heap   *heap.Heap
	bodies map[string]*mir.Body
	env    *sigs.Env
	script []bool
	fuel   int
	deep   int
}

// stop is why a run ends without a value.
type stop string

func fault(f heap.Fault) {
	if f != heap.None {
		panic(stop("fault " + num.Dec(int64(f))))
	}
}

// result is how a run ends: with a value, or why not.
type result struct {
	value heap.Value
	why   string
}

// run: a program from main, on a script; with all that it had it gives back what it took.
func run(t *testing.T, l []piece, env *sigs.Env, watch bool, script ...bool) (r result) {
	t.Helper()
	m := &machine{heap: heap.New(5000, watch), bodies: map[string]*mir.Body{}, env: env, script: script, fuel: 20000}
	for _, p := range l {
		m.bodies[p.job.Name] = p.done.Body
	}
	defer func() {
		switch x := recover().(type) {
		case nil:
		case stop:
			r = result{why: string(x)}
		default:
			panic(x)
		}
	}()
	r.value = m.call("main", nil)
	if m.heap.Live() != 0 {
		t.Errorf("%d are left", m.heap.Live())
	}
	return r
}

func (m *machine) alloc(v heap.Value) int {
	p, ok := m.heap.Alloc(v)
	if !ok {
		panic(stop("room"))
	}
	return p.Alloc
}

// frame is a call: the allocations of the locals that are there.
type frame struct {
	*machine
	b      *mir.Body
	allocs map[int]int
}

func (m *machine) call(name string, args []heap.Value) heap.Value {
	b := m.bodies[name]
	if b == nil || b.Params != len(args) {
		fault(heap.Shape)
	}
	if m.deep++; m.deep > 200 {
		panic(stop("deep"))
	}
	f := &frame{m, b, map[int]int{0: m.alloc(heap.Value{})}}
	for i, v := range args {
		f.allocs[i+1] = m.alloc(v)
	}
	v := f.run()
	m.deep--
	return v
}

func (f *frame) run() heap.Value {
	for i := 0; ; {
		if f.fuel--; f.fuel < 0 {
			panic(stop("fuel"))
		}
		c := f.b.Code[i]
		i++
		switch c.Kind {
		case mir.Live:
			if _, ok := f.allocs[c.Local]; ok {
				panic(stop("is there already"))
			}
			f.allocs[c.Local] = f.alloc(heap.Value{})
		case mir.Dead:
			f.free(c.Local)
		case mir.Jump:
			i = c.To
		case mir.If:
			i = c.Else
			if v := f.operand(c.Cond); v.Kind != heap.Bool {
				fault(heap.Shape)
			} else if v.N == 1 {
				i = c.To
			}
		case mir.Abort:
			panic(stop("abort"))
		case mir.Return:
			return f.leave()
		default:
			v := f.right(c.R)
			fault(f.heap.Write(f.place(c.Dest), v))
		}
	}
}

func (f *frame) free(local int) {
	a, ok := f.allocs[local]
	if !ok {
		panic(stop("isn't there"))
	}
	delete(f.allocs, local)
	fault(f.heap.Free(a))
}

func (f *frame) leave() heap.Value {
	v, e := f.heap.Take(f.place(mir.Place{}))
	fault(e)
	for n := range f.b.Locals {
		if _, ok := f.allocs[n]; ok {
			f.free(n)
		}
	}
	return v
}

func (f *frame) place(p mir.Place) heap.Pointer {
	a, ok := f.allocs[p.Local]
	if !ok {
		panic(stop("isn't there"))
	}
	q, e := f.heap.Base(a)
	fault(e)
	for _, n := range p.Path {
		if n != mir.Deref {
			q.Path = append(append([]int{}, q.Path...), n)
			continue
		}
		v, e := f.heap.Read(q)
		fault(e)
		switch v.Kind {
		case heap.Ref:
			q = v.To
		case heap.Box:
			q, e = f.heap.Base(v.To.Alloc)
			fault(e)
		default:
			fault(heap.Shape)
		}
	}
	return q
}

func (f *frame) operand(o mir.Operand) heap.Value {
	if o.Kind == mir.Const {
		return heap.Value{Kind: map[int]int{types.Int: heap.Int, types.Bool: heap.Bool, types.Float: heap.Float, types.Unit: heap.Unit}[o.Type], N: o.N}
	}
	read := f.heap.Read
	if o.Kind == mir.Move {
		read = f.heap.Take
	}
	v, e := read(f.place(o.Place))
	fault(e)
	return v
}

func (f *frame) right(r mir.Right) heap.Value {
	var args []heap.Value
	for _, o := range r.Args {
		args = append(args, f.operand(o))
	}
	switch r.Kind {
	case mir.Use, mir.Coerce:
		return args[0]
	case mir.Borrow:
		p, e := f.heap.Borrow(f.place(r.Place), r.Mut)
		fault(e)
		return heap.Value{Kind: heap.Ref, To: p}
	case mir.NewBox:
		return heap.Value{Kind: heap.Box, To: heap.Pointer{Alloc: f.alloc(args[0])}}
	case mir.Unbox:
		return f.unbox(args[0].To.Alloc)
	case mir.Make:
		return heap.Value{Kind: heap.Struct, Name: r.Name, Parts: args}
	case mir.Call:
		return f.call(r.Name, args)
	case mir.Invoke:
		return f.call(lower.Key(r.Name, f.head(r, args[0]), r.N), args)
	case mir.Choose:
		return f.choose()
	}
	return reckon(r.Name, args)
}

func (f *frame) unbox(alloc int) heap.Value {
	p, e := f.heap.Base(alloc)
	fault(e)
	v, e := f.heap.Take(p)
	fault(e)
	fault(f.heap.Free(alloc))
	return v
}

func truth(b bool) heap.Value {
	if b {
		return heap.Value{Kind: heap.Bool, N: 1}
	}
	return heap.Value{Kind: heap.Bool}
}

func (f *frame) choose() heap.Value {
	if len(f.script) == 0 {
		return truth(false)
	}
	b := f.script[0]
	f.script = f.script[1:]
	return truth(b)
}

// head: of what a method's object is.
func (f *frame) head(r mir.Right, v heap.Value) string {
	trait, _ := f.env.Trait(r.Name)
	if trait.Methods[r.N].Recv != tree.Own {
		var e heap.Fault
		v, e = f.heap.Peek(v.To)
		fault(e)
	}
	switch v.Kind {
	case heap.Int:
		return "int"
	case heap.Bool:
		return "bool"
	case heap.Float:
		return "f64"
	}
	return v.Name
}

func reckon(op string, args []heap.Value) heap.Value {
	a := args[0]
	b := args[len(args)-1]
	whole := func(n int64, ok bool) heap.Value {
		if !ok {
			panic(stop("over"))
		}
		return heap.Value{Kind: heap.Int, N: uint64(n)}
	}
	float := func(n uint64) heap.Value { return heap.Value{Kind: heap.Float, N: n} }
	x, y := int64(a.N), int64(b.N)
	unary := len(args) == 1
	switch {
	case a.Kind == heap.Bool:
		return truth(map[string]bool{"!": a.N == 0, "&&": a.N == 1 && b.N == 1, "|": a.N == 1 || b.N == 1, "==": a.N == b.N}[op])
	case a.Kind == heap.Int && unary:
		return whole(num.Neg(x))
	case a.Kind == heap.Int && op == "<":
		return truth(x < y)
	case a.Kind == heap.Int && op == "==":
		return truth(x == y)
	case a.Kind == heap.Int:
		return whole(map[string]func(a, b int64) (int64, bool){"+": num.Add, "-": num.Sub, "*": num.Mul, "/": num.Div}[op](x, y))
	case unary:
		return float(num.FNeg(a.N))
	case op == "<":
		return truth(num.FLess(a.N, b.N))
	case op == "==":
		return truth(num.FSame(a.N, b.N))
	}
	return float(map[string]func(a, b uint64) uint64{"+": num.FAdd, "-": num.FSub, "*": num.FMul, "/": num.FDiv}[op](a.N, b.N))
}
