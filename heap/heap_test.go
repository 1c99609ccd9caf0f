package heap_test

import (
	"reflect"
	"slices"
	"testing"

	"chattel/heap"
)

type (
	V = heap.Value
	P = heap.Pointer
	F = heap.Fault
)

func num(n uint64) V { return V{Kind: heap.Int, N: n} }

func str(parts ...V) V { return V{Kind: heap.Struct, Name: "S", Parts: parts} }

func box(i int) V { return V{Kind: heap.Box, To: P{Alloc: i}} }

func ref(p P) V { return V{Kind: heap.Ref, To: p} }

// alloc is of heaps that have room.
func alloc(t *testing.T, h *heap.Heap, v V) P {
	t.Helper()
	p, ok := h.Alloc(v)
	if !ok {
		t.Fatal("no room")
	}
	return p
}

// at: a part of what a pointer points to.
func at(p P, path ...int) P {
	p.Path = slices.Concat(p.Path, path)
	return p
}

func borrow(t *testing.T, h *heap.Heap, p P, unique bool) P {
	t.Helper()
	q, f := h.Borrow(p, unique)
	if f != heap.None || q.Alloc != p.Alloc || !slices.Equal(q.Path, p.Path) {
		t.Fatal("borrow", p, unique, q, f)
	}
	return q
}

// alike: nil and empty lists are one.
func alike(a, b V) bool {
	return a.Kind == b.Kind && a.N == b.N && a.Name == b.Name && a.To.Alloc == b.To.Alloc && a.To.Tag == b.To.Tag &&
		slices.Equal(a.To.Path, b.To.Path) && slices.EqualFunc(a.Parts, b.Parts, alike)
}

func nothing(v V) bool { return reflect.DeepEqual(v, V{}) }

func tags(h *heap.Heap, i int) []int {
	l := []int{}
	for _, r := range h.Stack(i) {
		l = append(l, r.Tag)
	}
	return l
}

func wantTags(t *testing.T, h *heap.Heap, i int, want ...int) {
	t.Helper()
	if got := tags(h, i); !slices.Equal(got, want) {
		t.Error("rights of", i, "are", got, "not", want)
	}
}

func wantAt(t *testing.T, h *heap.Heap, p P, want V) {
	t.Helper()
	if got, f := h.Peek(p); f != heap.None || !alike(got, want) {
		t.Error("at", p, "is", got, f, "not", want)
	}
}

func TestKinds(t *testing.T) {
	kinds := []int{heap.Void, heap.Unit, heap.Int, heap.Bool, heap.Float, heap.Struct, heap.Box, heap.Ref}
	if !slices.Equal(kinds, []int{0, 1, 2, 3, 4, 5, 6, 7}) {
		t.Error(kinds)
	}
	faults := []F{heap.None, heap.Dangling, heap.Tag, heap.Empty, heap.Shape}
	if !slices.Equal(faults, []F{0, 1, 2, 3, 4}) {
		t.Error(faults)
	}
}

// P13.1: numbers from 0 on, that don't come again, Tags from 1 on, and no more at once than may be.
func TestAlloc(t *testing.T) {
	h := heap.New(2, true)
	a, b := alloc(t, h, num(1)), alloc(t, h, V{})
	if a.Alloc != 0 || a.Tag != 1 || len(a.Path) != 0 || b.Alloc != 1 || b.Tag != 2 || h.Live() != 2 {
		t.Error(a, b, h.Live())
	}
	if p, ok := h.Alloc(num(3)); ok || !reflect.DeepEqual(p, P{}) || h.Live() != 2 {
		t.Error("room for a third", p, h.Live())
	}
	if f := h.Free(0); f != heap.None || h.Live() != 1 {
		t.Error(f, h.Live())
	}
	if c := alloc(t, h, num(4)); c.Alloc != 2 || c.Tag != 3 || h.Live() != 2 {
		t.Error("a number comes twice", c)
	}
	if f := h.Free(0); f != heap.Dangling || h.Live() != 2 {
		t.Error("freed twice", f)
	}
	for _, most := range []int{0, -1, -1 << 62} {
		h := heap.New(most, true)
		if _, ok := h.Alloc(V{}); ok || h.Live() != 0 {
			t.Error("room for one in", most)
		}
	}
}

// P13.1: a right is to all of the allocation, Unique; Base has the oldest one.
func TestBase(t *testing.T) {
	h := heap.New(9, true)
	alloc(t, h, num(0))
	p := alloc(t, h, str(num(1), num(2)))
	if got := h.Stack(1); !reflect.DeepEqual(got, []heap.Item{{Tag: 2, Unique: true}}) {
		t.Error(got)
	}
	borrow(t, h, at(p, 1), true)
	if b, f := h.Base(1); f != heap.None || b.Alloc != 1 || b.Tag != 2 || len(b.Path) != 0 {
		t.Error(b, f)
	}
	wantTags(t, h, 1, 2, 3)
	h.Free(1)
	for _, i := range []int{1, 2, -1, 1 << 40} {
		if b, f := h.Base(i); f != heap.Dangling || !reflect.DeepEqual(b, P{}) {
			t.Error(i, b, f)
		}
		if len(h.Stack(i)) != 0 || h.Free(i) != heap.Dangling {
			t.Error("there is", i)
		}
	}
}

// ways: what is at one place, in which each call finds its fault.
type way struct {
	v    V
	path []int
	whole,
	part F // of calls that want what is whole there, of calls that want a part
}

func ways() []way {
	deep := str(num(1), str(num(2), V{}), box(7))
	return []way{
		{num(1), nil, heap.None, heap.None},
		{V{Kind: heap.Unit}, []int{}, heap.None, heap.None},
		{V{}, nil, heap.Empty, heap.None},
		{V{}, []int{0}, heap.Empty, heap.Empty},
		{V{}, []int{-1}, heap.Empty, heap.Empty},
		{V{Parts: []V{num(1)}}, []int{0}, heap.Empty, heap.Empty},
		{str(), nil, heap.None, heap.None},
		{str(), []int{0}, heap.Shape, heap.Shape},
		{deep, nil, heap.Empty, heap.None},
		{deep, []int{0}, heap.None, heap.None},
		{deep, []int{0, 0}, heap.Shape, heap.Shape},
		{deep, []int{1}, heap.Empty, heap.None},
		{deep, []int{1, 0}, heap.None, heap.None},
		{deep, []int{1, 1}, heap.Empty, heap.None},
		{deep, []int{1, 1, 0}, heap.Empty, heap.Empty},
		{deep, []int{1, 2}, heap.Shape, heap.Shape},
		{deep, []int{1, 2, 0}, heap.Shape, heap.Shape},
		{deep, []int{2, 0}, heap.Shape, heap.Shape},
		{deep, []int{3}, heap.Shape, heap.Shape},
		{deep, []int{-1}, heap.Shape, heap.Shape},
		{deep, []int{1 << 40}, heap.Shape, heap.Shape},
		{V{Kind: heap.Int, Parts: []V{num(1)}}, []int{0}, heap.Shape, heap.Shape},
		{V{Kind: heap.Int, Parts: []V{{}}}, nil, heap.Empty, heap.None},
		{V{Kind: heap.Box, Parts: []V{num(1)}}, []int{0}, heap.Shape, heap.Shape},
		{V{Kind: 8, Parts: []V{num(1)}}, []int{0}, heap.Shape, heap.Shape},
		{V{Kind: -1}, nil, heap.None, heap.None},
		{str(str(str(str(V{})))), nil, heap.Empty, heap.None},
		{str(str(str(str(num(1))))), nil, heap.None, heap.None},
	}
}

// within: the part of a value, of paths that are.
func within(v V, path []int) V {
	for _, n := range path {
		v = v.Parts[n]
	}
	return v
}

// P13.1: what is there, whole, is read, taken, lent; a part is peeked at.
func TestPlaces(t *testing.T) {
	for _, watch := range []bool{true, false} {
		for i, w := range ways() {
			h := heap.New(1, watch)
			p := at(alloc(t, h, w.v), w.path...)
			got, f := h.Read(p)
			if f != w.whole || f == heap.None && !alike(got, within(w.v, w.path)) || f != heap.None && !nothing(got) {
				t.Error(i, "read", got, f)
			}
			got, f = h.Peek(p)
			if f != w.part || f == heap.None && !alike(got, within(w.v, w.path)) || f != heap.None && !nothing(got) {
				t.Error(i, "peek", got, f)
			}
			for _, unique := range []bool{true, false} {
				q, f := h.Borrow(p, unique)
				if f != w.whole || f == heap.None && !slices.Equal(q.Path, w.path) || f != heap.None && !reflect.DeepEqual(q, P{}) {
					t.Error(i, "borrow", q, f)
				}
			}
			wantAt(t, h, P{}, w.v)
		}
	}
}

// P13.1: what is taken isn't there any more, and all else is.
func TestTake(t *testing.T) {
	for i, w := range ways() {
		h := heap.New(1, true)
		p := at(alloc(t, h, w.v), w.path...)
		got, f := h.Take(p)
		if f != w.whole || f == heap.None && !alike(got, within(w.v, w.path)) || f != heap.None && !nothing(got) {
			t.Error(i, "take", got, f)
		}
		if f != heap.None {
			wantAt(t, h, P{}, w.v)
			continue
		}
		if got, f := h.Peek(p); f != heap.None || !nothing(got) {
			t.Error(i, "still there", got, f)
		}
		if _, f := h.Take(p); f != heap.Empty {
			t.Error(i, "taken twice", f)
		}
	}
	h := heap.New(1, true)
	p := alloc(t, h, str(num(1), num(2), num(3)))
	h.Take(at(p, 1))
	wantAt(t, h, p, str(num(1), V{}, num(3)))
}

// P13.1: a part may be Void to be written, but not lie in one.
func TestWrite(t *testing.T) {
	for i, w := range ways() {
		h := heap.New(9, true)
		p := at(alloc(t, h, w.v), w.path...)
		for range 6 {
			alloc(t, h, num(0))
		}
		alloc(t, h, num(77)) // what the Box in one of them owns
		x := str(num(5), ref(P{Alloc: 3, Path: []int{4}, Tag: 9}), V{})
		if f := h.Write(p, x); f != w.part {
			t.Error(i, "write", f)
		}
		if w.part != heap.None {
			wantAt(t, h, P{}, w.v)
			continue
		}
		wantAt(t, h, p, x)
		if f := h.Write(p, V{}); f != heap.None {
			t.Error(i, "write nothing", f)
		}
		wantAt(t, h, p, V{})
	}
}

// P13.1: what was there is dropped, its fault is told; the new one is there all the same.
func TestWriteDrops(t *testing.T) {
	h := heap.New(9, true)
	p := alloc(t, h, num(0))
	a := alloc(t, h, num(1))
	h.Write(p, str(box(a.Alloc), box(99), num(1)))
	if h.Live() != 2 {
		t.Error("dropped too early")
	}
	if f := h.Write(at(p, 2), num(2)); f != heap.None || h.Live() != 2 {
		t.Error("dropped another part", f)
	}
	if f := h.Write(p, num(7)); f != heap.Dangling || h.Live() != 1 {
		t.Error(f, h.Live())
	}
	wantAt(t, h, p, num(7))
	if f := h.Write(p, ref(p)); f != heap.None {
		t.Error(f)
	}
	if f := h.Write(p, num(1)); f != heap.None || h.Live() != 1 {
		t.Error("a reference owns nothing", f)
	}
}

// P13.1: a Box frees what it owns, whose Boxes free what they own; Structs' parts go in order, up to a fault.
func TestDrop(t *testing.T) {
	h := heap.New(9, true)
	for i := range 6 {
		v := num(uint64(i))
		if i == 1 || i == 2 {
			v = str(num(1), box(i-1))
		}
		alloc(t, h, v)
	}
	for i, v := range []V{{}, num(1), ref(P{}), {Kind: heap.Int, Parts: []V{box(3)}}, {Kind: 8, Parts: []V{box(3)}}, {Parts: []V{box(3)}}, str()} {
		if f := h.Drop(v); f != heap.None || h.Live() != 6 {
			t.Error(i, f, h.Live())
		}
	}
	if f := h.Drop(str(V{}, V{Kind: heap.Box, To: P{Alloc: 2, Path: []int{9}, Tag: -7}})); f != heap.None || h.Live() != 3 {
		t.Error(f, h.Live())
	}
	if f := h.Drop(str(box(3), str(box(2)), box(4))); f != heap.Dangling || h.Live() != 2 {
		t.Error(f, h.Live())
	}
	if _, f := h.Base(4); f != heap.None {
		t.Error("it goes on behind a fault")
	}
	if f := h.Drop(str(box(4), box(4))); f != heap.Dangling || h.Live() != 1 {
		t.Error(f, h.Live())
	}
	if f := h.Free(5); f != heap.None || h.Live() != 0 {
		t.Error(f, h.Live())
	}
}

// P13.1: an allocation is there no more ahead of what was in it being dropped, so rings end.
func TestFreeRing(t *testing.T) {
	h := heap.New(9, true)
	a, b := alloc(t, h, box(1)), alloc(t, h, str(num(1), box(0)))
	if f := h.Free(0); f != heap.Dangling || h.Live() != 0 {
		t.Error(f, h.Live())
	}
	for _, p := range []P{a, b} {
		if _, f := h.Peek(p); f != heap.Dangling {
			t.Error(f)
		}
	}
	p := alloc(t, h, V{})
	h.Write(p, box(p.Alloc))
	if f := h.Write(p, num(1)); f != heap.None || h.Live() != 0 {
		t.Error("a write to what it frees", f, h.Live())
	}
}

// P13.1: all calls of what isn't there (any more).
func TestDangling(t *testing.T) {
	h := heap.New(9, true)
	p := alloc(t, h, num(1))
	h.Free(p.Alloc)
	var none *heap.Heap
	for _, p := range []P{p, {Alloc: -1, Tag: 1}, {Alloc: 1, Tag: 1}, {Alloc: 1 << 40, Path: []int{-1}}} {
		for i, h := range []*heap.Heap{h, none, heap.New(9, false)} {
			_, read := h.Read(p)
			_, take := h.Take(p)
			_, lent := h.Borrow(p, true)
			_, peek := h.Peek(p)
			_, base := h.Base(p.Alloc)
			for _, f := range []F{read, take, lent, peek, base, h.Write(p, num(1)), h.Free(p.Alloc), h.Drop(box(p.Alloc))} {
				if f != heap.Dangling {
					t.Error(i, p, f)
				}
			}
		}
	}
	if p, ok := none.Alloc(num(1)); ok || !reflect.DeepEqual(p, P{}) || none.Live() != 0 || len(none.Stack(0)) != 0 {
		t.Error("a nil heap has room")
	}
	if f := none.Drop(str(num(1), V{})); f != heap.None {
		t.Error(f)
	}
}

// P13.1: values are copied part by part, so no list is shared.
func TestNewMemory(t *testing.T) {
	h := heap.New(9, true)
	path := make([]int, 1, 8)
	parts := make([]V, 2, 8)
	parts[0], parts[1] = num(1), ref(P{Alloc: 3, Path: []int{4, 5}, Tag: 6})
	want := str(num(1), str(num(1), ref(P{Alloc: 3, Path: []int{4, 5}, Tag: 6})))
	p := alloc(t, h, str(num(1), str(parts...)))
	spoil := func() { parts[0], parts[1].To.Path[0] = num(9), 9 }
	mend := func() { parts[0], parts[1].To.Path[0] = num(1), 4 }
	spoil()
	wantAt(t, h, p, want)
	mend()
	h.Write(at(p, 1), str(parts...))
	spoil()
	wantAt(t, h, p, want)
	for _, get := range []func() V{
		func() V { v, _ := h.Read(p); return v },
		func() V { v, _ := h.Peek(p); return v },
	} {
		v := get()
		v.Parts[0], v.Parts[1].Parts[1].To.Path[1] = num(8), 8
		wantAt(t, h, p, want)
	}
	path[0] = 1
	q, _ := h.Borrow(P{Alloc: p.Alloc, Path: path, Tag: p.Tag}, true)
	path[0] = 0
	if q.Path[0] != 1 || h.Stack(0)[1].Path[0] != 1 {
		t.Error("a path is kept")
	}
	q.Path[0] = 0
	h.Stack(0)[1].Path[0] = 7
	h.Stack(0)[0].Tag = 7
	if s := h.Stack(0); s[1].Path[0] != 1 || s[0].Tag != 1 {
		t.Error("rights are shared")
	}
	v, _ := h.Take(p)
	h.Write(p, v)
	v.Parts[0] = num(6)
	wantAt(t, h, p, want)
}

// P1: an empty list's spare room is another's.
func TestSpareRoom(t *testing.T) {
	room := []V{num(1)}
	h := heap.New(9, true)
	p := alloc(t, h, str(room[:0]...))
	h.Write(p, str(room[:0]...))
	for _, get := range []func(P) (V, F){h.Read, h.Peek, h.Take} {
		v, _ := get(p)
		_ = append(v.Parts, num(2))
	}
	if room[0].N != 1 {
		t.Error("spare room is changed")
	}
}

// Nested 2^16 deep, and a chain of Boxes that is longer yet.
func TestDeep(t *testing.T) {
	const n = 1 << 16
	v := num(1)
	path := make([]int, n)
	for range n {
		v = V{Kind: heap.Struct, Parts: []V{v}}
	}
	h := heap.New(1<<21, true)
	p := alloc(t, h, v)
	if x, f := h.Read(at(p, path...)); f != heap.None || x.N != 1 {
		t.Error(x, f)
	}
	if x, f := h.Read(p); f != heap.None || !alike(x, v) {
		t.Error(f)
	}
	if f := h.Write(at(p, path...), V{}); f != heap.None {
		t.Error(f)
	}
	if _, f := h.Read(p); f != heap.Empty {
		t.Error(f)
	}
	last := p
	for range 1 << 20 {
		last = alloc(t, h, V{Kind: heap.Box, To: last})
	}
	if f := h.Free(last.Alloc); f != heap.None || h.Live() != 0 {
		t.Error(f, h.Live())
	}
}
