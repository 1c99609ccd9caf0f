package heap_test

import (
	"slices"
	"testing"

	"chattel/heap"
)

// The chapter's example: a read by the owner ends a unique borrow.
func TestExample(t *testing.T) {
	h := heap.New(1, true)
	p := alloc(t, h, num(1))
	q := borrow(t, h, p, true)
	if v, f := h.Read(p); f != heap.None || v.N != 1 {
		t.Error(v, f)
	}
	if v, f := h.Read(q); f != heap.Tag || !nothing(v) {
		t.Error(v, f)
	}
}

// uses: each call that uses a pointer, and whether it writes.
func uses() []struct {
	name   string
	writes bool
	use    func(h *heap.Heap, p P) F
} {
	return []struct {
		name   string
		writes bool
		use    func(h *heap.Heap, p P) F
	}{
		{"read", false, func(h *heap.Heap, p P) F { _, f := h.Read(p); return f }},
		{"take", true, func(h *heap.Heap, p P) F { _, f := h.Take(p); return f }},
		{"write", true, func(h *heap.Heap, p P) F { return h.Write(p, num(9)) }},
		{"lend", true, func(h *heap.Heap, p P) F { _, f := h.Borrow(p, true); return f }},
		{"share", false, func(h *heap.Heap, p P) F { _, f := h.Borrow(p, false); return f }},
	}
}

// P13.2: of a part, what is around it, what is in it, and what is beside it, each use by an older right, behind each borrow.
func TestUseEnds(t *testing.T) {
	paths := []struct {
		path []int
		meet bool
	}{{nil, true}, {[]int{0}, true}, {[]int{0, 1}, true}, {[]int{0, 1, 1}, true}, {[]int{0, 0}, false}, {[]int{1}, false}}
	inner := str(num(3), num(4))
	for _, u := range uses() {
		for _, w := range paths {
			for _, unique := range []bool{true, false} {
				h := heap.New(1, true)
				p := alloc(t, h, str(str(num(1), inner), num(2)))
				q := borrow(t, h, at(p, 0, 1), unique)
				if f := u.use(h, at(p, w.path...)); f != heap.None {
					t.Error(u.name, w.path, f)
				}
				gone := w.meet && (unique || u.writes)
				if slices.Contains(tags(h, 0), q.Tag) == gone {
					t.Error(u.name, w.path, unique, tags(h, 0))
				}
				if _, f := h.Borrow(at(q, 0), false); (f == heap.Tag) != gone {
					t.Error(u.name, w.path, unique, f)
				}
			}
		}
	}
}

// P13.2: a use by the borrow itself, or by a newer right, ends it not.
func TestUseKeeps(t *testing.T) {
	for _, u := range uses() {
		h := heap.New(1, true)
		p := alloc(t, h, str(num(1), num(2)))
		q := borrow(t, h, at(p, 0), true)
		r := borrow(t, h, q, true)
		s := borrow(t, h, at(p, 1), false)
		wantTags(t, h, 0, 1, 2, 3, 4)
		if f := u.use(h, r); f != heap.None {
			t.Error(u.name, f)
		}
		if got := tags(h, 0); !slices.Equal(got[:4], []int{1, 2, 3, 4}) {
			t.Error(u.name, got)
		}
		h.Write(r, num(3))
		if f := u.use(h, q); f != heap.None {
			t.Error(u.name, f)
		}
		if got := tags(h, 0); got[1] != 2 || got[2] != 4 || slices.Contains(got, r.Tag) {
			t.Error(u.name, got)
		}
		if _, f := h.Read(s); f != heap.None {
			t.Error(u.name, "ends what is beside", f)
		}
	}
}

// P13.1: a Tag that isn't there, a right to another part, a right that isn't Unique: nothing changes.
func TestTag(t *testing.T) {
	for _, u := range uses() {
		h := heap.New(2, true)
		p := alloc(t, h, str(str(num(1), num(2)), num(3)))
		o := alloc(t, h, num(1))
		q := borrow(t, h, at(p, 0), true)
		s := borrow(t, h, at(q, 1), false)
		wantTags(t, h, 0, 1, 3, 4)
		wrong := []P{
			{Path: q.Path, Tag: 99}, {Path: q.Path}, {Path: q.Path, Tag: -1}, {Path: q.Path, Tag: 5}, {Path: q.Path, Tag: o.Tag},
			{Path: nil, Tag: q.Tag}, {Path: []int{1}, Tag: q.Tag}, {Path: []int{0}, Tag: s.Tag}, {Path: []int{0, 0}, Tag: s.Tag},
			{Path: []int{7, 7, 7}, Tag: s.Tag}, {Alloc: 1, Tag: p.Tag},
		}
		if u.writes {
			wrong = append(wrong, s, at(s, 0))
		}
		for _, p := range wrong {
			if f := u.use(h, p); f != heap.Tag {
				t.Error(u.name, p, f)
			}
		}
		wantTags(t, h, 0, 1, 3, 4)
		wantTags(t, h, 1, 2)
		wantAt(t, h, P{}, str(str(num(1), num(2)), num(3)))
		if n := borrow(t, h, s, false); n.Tag != 5 {
			t.Error(u.name, "a Tag without a right", n)
		}
	}
}

// P13.1: with a fault that isn't of the use the use has changed the stack, and no right is made.
func TestFaultBehindUse(t *testing.T) {
	for _, u := range uses() {
		for _, w := range []struct {
			path []int
			f    F
			tags []int
		}{{[]int{0, 0}, heap.Empty, []int{1, 3}}, {[]int{1, 5}, heap.Shape, []int{1, 2}}, {[]int{2}, heap.Shape, []int{1, 2, 3}}} {
			h := heap.New(1, true)
			p := alloc(t, h, str(num(0), num(1)))
			q := borrow(t, h, at(p, 0), true)
			borrow(t, h, at(p, 1), true)
			h.Take(q)
			wantTags(t, h, 0, 1, 2, 3)
			if f := u.use(h, at(p, w.path...)); f != w.f {
				t.Error(u.name, w.path, f)
			}
			wantTags(t, h, 0, w.tags...)
			if n, f := h.Borrow(at(p, 1), false); f != heap.None || n.Tag != 4 {
				t.Error(u.name, "a Tag without a right", n)
			}
		}
	}
}

// P13.1: Peek, Base, Stack, Drop and Live are no uses; a Free asks no right.
func TestNoUse(t *testing.T) {
	h := heap.New(1, true)
	p := alloc(t, h, num(1))
	q := borrow(t, h, p, true)
	h.Peek(p)
	h.Base(0)
	h.Live()
	h.Drop(num(1))
	if _, f := h.Peek(P{Tag: 99}); f != heap.None {
		t.Error("a peek asks a right", f)
	}
	wantTags(t, h, 0, 1, 2)
	if f := h.Write(q, num(2)); f != heap.None {
		t.Error(f)
	}
	if f := h.Free(0); f != heap.None {
		t.Error(f)
	}
}

// P13.1: a heap that doesn't watch has no rights, and lets each pointer be used.
func TestUnwatched(t *testing.T) {
	h := heap.New(3, false)
	p := alloc(t, h, str(num(1), V{}))
	q, _ := h.Borrow(at(p, 0), false)
	if len(h.Stack(0)) != 0 || h.Live() != 1 {
		t.Error(h.Stack(0))
	}
	if f := h.Write(q, num(5)); f != heap.None {
		t.Error(f)
	}
	if f := h.Write(P{Path: []int{1}, Tag: -5}, num(6)); f != heap.None {
		t.Error(f)
	}
	wantAt(t, h, p, str(num(5), num(6)))
	if b, f := h.Base(0); f != heap.None || b.Alloc != 0 || len(b.Path) != 0 {
		t.Error(b, f)
	}
}
