package heap_test

import (
	"math/rand"
	"reflect"
	"slices"
	"testing"

	"chattel/heap"
)

// book is a heap by the chapter's words, told anew with each call: allocations that were, and values that nobody changes.
type book struct {
	most   int
	values []V
	there  []bool
	rights [][]heap.Item
	tags   int
}

func (b *book) live() int {
	n := 0
	for _, is := range b.there {
		if is {
			n++
		}
	}
	return n
}

func (b *book) right(i int, path []int, unique bool) int {
	b.tags++
	b.rights[i] = slices.Concat(b.rights[i], []heap.Item{{Tag: b.tags, Path: path, Unique: unique}})
	return b.tags
}

func (b *book) alloc(v V) (P, bool) {
	if b.live() >= b.most {
		return P{}, false
	}
	i := len(b.values)
	b.values, b.there, b.rights = append(b.values, v), append(b.there, true), append(b.rights, nil)
	return P{Alloc: i, Tag: b.right(i, nil, true)}, true
}

func start(a, b []int) bool {
	for i, n := range a {
		if i >= len(b) || b[i] != n {
			return false
		}
	}
	return true
}

func (b *book) has(i int) bool { return i >= 0 && i < len(b.there) && b.there[i] }

func (b *book) use(p P, writes bool) F {
	if !b.has(p.Alloc) {
		return heap.Dangling
	}
	found := false
	var left []heap.Item
	for _, r := range b.rights[p.Alloc] {
		switch {
		case r.Tag == p.Tag:
			if !start(r.Path, p.Path) || writes && !r.Unique {
				return heap.Tag
			}
			found = true
		case found && (start(r.Path, p.Path) || start(p.Path, r.Path)) && (writes || r.Unique):
			continue
		}
		left = append(left, r)
	}
	if !found {
		return heap.Tag
	}
	b.rights[p.Alloc] = left
	return heap.None
}

func get(v V, path []int) (V, F) {
	if len(path) == 0 {
		return v, heap.None
	}
	if v.Kind == heap.Void {
		return V{}, heap.Empty
	}
	if v.Kind != heap.Struct || path[0] < 0 || path[0] >= len(v.Parts) {
		return V{}, heap.Shape
	}
	return get(v.Parts[path[0]], path[1:])
}

func put(v V, path []int, x V) V {
	if len(path) == 0 {
		return x
	}
	v.Parts = slices.Clone(v.Parts)
	v.Parts[path[0]] = put(v.Parts[path[0]], path[1:], x)
	return v
}

func full(v V) bool {
	for _, x := range v.Parts {
		if !full(x) {
			return false
		}
	}
	return v.Kind != heap.Void
}

func (b *book) get(p P, writes, whole bool) (V, F) {
	if f := b.use(p, writes); f != heap.None {
		return V{}, f
	}
	v, f := get(b.values[p.Alloc], p.Path)
	if f == heap.None && whole && !full(v) {
		return V{}, heap.Empty
	}
	return v, f
}

func (b *book) read(p P) (V, F) { return b.get(p, false, true) }

func (b *book) take(p P) (V, F) {
	v, f := b.get(p, true, true)
	if f == heap.None {
		b.values[p.Alloc] = put(b.values[p.Alloc], p.Path, V{})
	}
	return v, f
}

func (b *book) write(p P, x V) F {
	v, f := b.get(p, true, false)
	if f != heap.None {
		return f
	}
	b.values[p.Alloc] = put(b.values[p.Alloc], p.Path, x)
	return b.drop(v)
}

func (b *book) borrow(p P, unique bool) (P, F) {
	if _, f := b.get(p, unique, true); f != heap.None {
		return P{}, f
	}
	return P{Alloc: p.Alloc, Path: p.Path, Tag: b.right(p.Alloc, p.Path, unique)}, heap.None
}

func (b *book) free(i int) F {
	if !b.has(i) {
		return heap.Dangling
	}
	b.there[i] = false
	return b.drop(b.values[i])
}

func (b *book) drop(v V) F {
	if v.Kind == heap.Box {
		return b.free(v.To.Alloc)
	}
	if v.Kind != heap.Struct {
		return heap.None
	}
	for _, x := range v.Parts {
		if f := b.drop(x); f != heap.None {
			return f
		}
	}
	return heap.None
}

func (b *book) peek(p P) (V, F) {
	if !b.has(p.Alloc) {
		return V{}, heap.Dangling
	}
	return get(b.values[p.Alloc], p.Path)
}

// walk is a walk at random over calls of heaps.
type walk struct {
	r        *rand.Rand
	pointers []P
}

func (w *walk) value(deep int) V {
	switch n := w.r.Intn(9); {
	case n < 3 && deep > 0:
		v := V{Kind: heap.Struct, Name: "S"}
		for range w.r.Intn(4) {
			v.Parts = append(v.Parts, w.value(deep-1))
		}
		return v
	case n == 3:
		return box(w.r.Intn(6))
	case n == 4:
		return ref(w.pointer())
	case n == 5:
		return V{Kind: w.r.Intn(10) - 1, N: 7}
	}
	return num(uint64(w.r.Intn(50)))
}

// pointer: one that was answered, seldom spoilt, often to a part.
func (w *walk) pointer() P {
	p := P{Alloc: w.r.Intn(4), Tag: w.r.Intn(9)}
	if len(w.pointers) > 0 && w.r.Intn(20) > 0 {
		p = w.pointers[len(w.pointers)-1-w.r.Intn(min(len(w.pointers), 12))]
	}
	for w.r.Intn(3) == 0 {
		p = at(p, w.r.Intn(4))
	}
	if w.r.Intn(30) == 0 {
		p = at(p, -1)
	}
	return p
}

func (w *walk) keep(p P, ok bool) {
	if ok {
		w.pointers = append(w.pointers, p)
	}
}

// P13.1: random calls, held against the chapter's words.
func TestRandom(t *testing.T) {
	found := map[string][5]int{}
	for seed := range 3000 {
		w := &walk{r: rand.New(rand.NewSource(int64(seed)))}
		most := 1 + w.r.Intn(5)
		h, b := heap.New(most, true), &book{most: most}
		for range 60 {
			name, ok, f := step(w, h, b)
			n := found[name]
			n[f]++
			found[name] = n
			if !ok || !equalHeaps(h, b) {
				t.Fatal(seed, name, f)
			}
		}
	}
	for name, n := range found {
		if name != "alloc" && name != "drop" && (n[heap.None] < 50 || n[heap.Dangling] < 20) || name == "read" && slices.Min(n[:]) < 50 {
			t.Error("too few", name, n)
		}
	}
}

// step: one call of a heap and of a book: which, is it the same, with which fault.
func step(w *walk, h *heap.Heap, b *book) (string, bool, F) {
	unique := w.r.Intn(2) == 0
	switch w.r.Intn(9) {
	case 0:
		v := w.value(3)
		p, ok := h.Alloc(v)
		q, yes := b.alloc(v)
		w.keep(p, ok)
		return "alloc", ok == yes && samePointer(p, q), 0
	case 1:
		i := w.r.Intn(len(b.values) + 1)
		f := h.Free(i)
		return "free", f == b.free(i), f
	case 2:
		v := w.value(2)
		f := h.Drop(v)
		return "drop", f == b.drop(v), f
	case 3:
		p := w.pointer()
		v, f := h.Take(p)
		x, g := b.take(p)
		return "take", f == g && alike(v, x), f
	case 4:
		p, v := w.pointer(), w.value(2)
		f := h.Write(p, v)
		return "write", f == b.write(p, v), f
	case 5:
		p := w.pointer()
		v, f := h.Read(p)
		x, g := b.read(p)
		return "read", f == g && alike(v, x), f
	case 6:
		p := w.pointer()
		v, f := h.Peek(p)
		x, g := b.peek(p)
		return "peek", f == g && alike(v, x), f
	}
	p := w.pointer()
	q, f := h.Borrow(p, unique)
	x, g := b.borrow(p, unique)
	w.keep(q, f == heap.None)
	return "borrow", f == g && samePointer(q, x), f
}

func samePointer(a, b P) bool {
	return a.Alloc == b.Alloc && a.Tag == b.Tag && slices.Equal(a.Path, b.Path)
}

func equalHeaps(h *heap.Heap, b *book) bool {
	for i := range b.values {
		v, f := h.Peek(P{Alloc: i})
		x, g := b.peek(P{Alloc: i})
		base, at := h.Base(i)
		if f != g || !alike(v, x) || at != g || g == heap.None && base.Tag != b.rights[i][0].Tag {
			return false
		}
		var rights []heap.Item
		if b.there[i] {
			rights = b.rights[i]
		}
		if !slices.EqualFunc(h.Stack(i), rights, func(a, b heap.Item) bool {
			return a.Tag == b.Tag && a.Unique == b.Unique && slices.Equal(a.Path, b.Path)
		}) {
			return false
		}
	}
	return h.Live() == b.live()
}

// untag: a value without its Tags.
func untag(v V) V {
	v.To.Tag = 0
	parts := make([]V, len(v.Parts))
	for i, x := range v.Parts {
		parts[i] = untag(x)
	}
	v.Parts = parts
	return v
}

// P13.3: as long as no fault is told, a heap that doesn't watch tells the same, but for Tags.
func TestRandomUnwatched(t *testing.T) {
	long := 0
	for seed := range 20000 {
		w := &walk{r: rand.New(rand.NewSource(int64(seed)))}
		h, g := heap.New(6, true), heap.New(6, false)
		for n := range 40 {
			ok, fault := both(w, h, g)
			if !ok || h.Live() != g.Live() && !fault {
				t.Fatal(seed, n)
			}
			if fault {
				break
			}
			if n > 10 {
				long++
			}
		}
	}
	if long < 2000 {
		t.Error("too few", long)
	}
}

// both: one call of both heaps: is it the same, is it a fault?
func both(w *walk, h, g *heap.Heap) (bool, bool) {
	p, v, unique := w.pointer(), w.value(2), w.r.Intn(2) == 0
	for range 8 { // most that isn't there would end the walk at once
		if x, f := h.Peek(p); f == heap.None && full(x) {
			break
		}
		p = w.pointer()
	}
	switch w.r.Intn(7) {
	case 0, 1:
		a, ok := h.Alloc(v)
		b, yes := g.Alloc(v)
		w.keep(a, ok)
		return ok == yes && a.Alloc == b.Alloc && len(b.Path) == 0, false
	case 2:
		a, e := h.Read(p)
		b, f := g.Read(p)
		return e != heap.None || f == heap.None && alike(untag(a), untag(b)), e != heap.None
	case 3:
		a, e := h.Take(p)
		b, f := g.Take(p)
		return e != heap.None || f == heap.None && alike(untag(a), untag(b)), e != heap.None
	case 4:
		e, f := h.Write(p, v), g.Write(p, v)
		return e != heap.None || f == heap.None, e != heap.None
	case 5:
		a, e := h.Base(p.Alloc)
		b, f := g.Base(p.Alloc)
		return e == f && a.Alloc == b.Alloc && slices.Equal(a.Path, b.Path), e != heap.None
	}
	a, e := h.Borrow(p, unique)
	b, f := g.Borrow(p, unique)
	w.keep(a, e == heap.None)
	return e != heap.None || f == heap.None && a.Alloc == b.Alloc && slices.Equal(a.Path, b.Path), e != heap.None
}

// P13.2: a borrow is ended just by uses of what meets it, by rights older than it, that write, or behind a unique one.
func TestRandomRights(t *testing.T) {
	for seed := range 2000 {
		r := rand.New(rand.NewSource(int64(seed)))
		h := heap.New(1, true)
		v := str(str(num(1), num(2)), str(num(3), str(num(4))))
		l := []right{{p: alloc(t, h, v), unique: true}}
		for range 30 {
			n := r.Intn(len(l))
			p := l[n].p
			for x, _ := h.Peek(p); len(x.Parts) > 0 && r.Intn(2) == 0; x, _ = h.Peek(p) {
				p = at(p, r.Intn(len(x.Parts)))
			}
			u := uses()[[]int{0, 3, 4}[r.Intn(3)]]
			f := u.use(h, p)
			if want := l[n].ended || u.writes && !l[n].unique; (f == heap.Tag) != want || f != heap.Tag && f != heap.None {
				t.Fatal(seed, u.name, p, f, want)
			}
			if f == heap.None {
				l = behind(l, n, p, u.writes, u.name, h)
			}
		}
	}
}

type right struct {
	p             P
	unique, ended bool
}

// behind: rights behind a use of one of them, with the one that came of it.
func behind(l []right, n int, p P, writes bool, name string, h *heap.Heap) []right {
	for i := n + 1; i < len(l); i++ {
		meet := start(l[i].p.Path, p.Path) || start(p.Path, l[i].p.Path)
		l[i].ended = l[i].ended || meet && (writes || l[i].unique)
	}
	if name == "read" {
		return l
	}
	s := h.Stack(0)
	p.Tag = s[len(s)-1].Tag
	return append(l, right{p: p, unique: name == "lend"})
}

// P1: what a heap answers hangs on what it was told alone.
func TestAgain(t *testing.T) {
	for seed := range 50 {
		var runs [2][]any
		for i := range runs {
			w := &walk{r: rand.New(rand.NewSource(int64(seed)))}
			h, b := heap.New(4, true), &book{most: 4}
			for range 40 {
				name, _, f := step(w, h, b)
				runs[i] = append(runs[i], name, f, h.Stack(0), h.Live())
			}
		}
		if !reflect.DeepEqual(runs[0], runs[1]) {
			t.Fatal(seed)
		}
	}
}
