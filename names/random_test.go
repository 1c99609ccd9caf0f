package names_test

import (
	"math/rand"
	"reflect"
	"slices"
	"strconv"
	"testing"

	"chattel/api"
	"chattel/names"
	"chattel/tree"
)

// maker makes items of few names, so that many are alike; each at a place of its own.
type maker struct {
	*rand.Rand
	line int
}

func (m *maker) at() api.Pos {
	m.line++
	return api.Pos{Line: m.line, Col: 1 + m.Intn(9)}
}

func (m *maker) of(l ...string) string { return l[m.Intn(len(l))] }

// some: up to n of what one makes.
func some[T any](m *maker, n int, one func() T) (l []T) {
	for range m.Intn(n + 1) {
		l = append(l, one())
	}
	return l
}

func (m *maker) structName() string { return m.of("A", "B", "C", "D", "E", "F") }

func (m *maker) typ(deep int) tree.Type {
	x := tree.Type{At: m.at()}
	inner := func() tree.Type { return m.typ(deep - 1) }
	switch n := m.Intn(8); {
	case n == 0 || deep == 0:
		x.Kind = tree.TInt
	case n == 1:
		x.Kind, x.Args = tree.TBox, []tree.Type{inner()}
	case n == 2:
		x.Kind, x.Life, x.Args = tree.TRef, names.Static, []tree.Type{inner()}
	default:
		x.Kind, x.Name = tree.TName, m.structName()
		x.Args = some(m, 2, inner)
	}
	return x
}

func (m *maker) item() tree.Item {
	x := tree.Item{At: m.at()}
	switch m.Intn(7) {
	case 0:
		x.Kind, x.Name = tree.ITrait, m.of("R", "Q", "A")
	case 1:
		x.Kind, x.Name, x.Head = tree.IImpl, m.of("R", "Q"), m.of("int", "bool", "A", "B")
	case 2:
		x.Kind, x.Name = tree.IFn, m.of("f", "g", "A")
	default:
		x.Kind, x.Name = tree.IStruct, m.structName()
		x.Gen.Types = some(m, 2, func() string { return m.of("T", "U", "A", "F") })
		for i := range m.Intn(3) {
			x.Fields = append(x.Fields, tree.Param{Name: "x" + strconv.Itoa(i), Type: m.typ(3), At: m.at()})
		}
	}
	return x
}

// ofCode: where errors of a number are.
func ofCode(l []api.Err, code api.Errno) (at []api.Pos) {
	for _, e := range l {
		if e.Code == code {
			at = append(at, e.At)
		}
	}
	return at
}

// wanted is Size as the chapter's words say it: which names lie in which, then by way of each name between.
func wanted(l []tree.Item) (at []api.Pos) {
	first := map[string]tree.Item{}
	for _, x := range l {
		if _, ok := first[x.Name]; !ok && (x.Kind == tree.IStruct || x.Kind == tree.ITrait) {
			first[x.Name] = x
		}
	}
	lies := map[[2]string]bool{}
	all := []string{"A", "B", "C", "D", "E", "F"}
	for _, s := range first {
		for _, name := range all {
			for _, f := range s.Fields {
				if s.Kind == tree.IStruct && has(f.Type, name, slices.Contains(s.Gen.Types, name)) {
					lies[[2]string{name, s.Name}] = true
				}
			}
		}
	}
	for _, k := range all {
		for _, a := range all {
			for _, b := range all {
				if lies[[2]string{a, k}] && lies[[2]string{k, b}] {
					lies[[2]string{a, b}] = true
				}
			}
		}
	}
	for _, x := range l {
		if s := first[x.Name]; x.Kind == tree.IStruct && s.At == x.At && lies[[2]string{x.Name, x.Name}] {
			at = append(at, x.At)
		}
	}
	return at
}

func has(x tree.Type, name string, hidden bool) bool {
	if x.Kind != tree.TName {
		return false
	}
	return x.Name == name && !hidden || slices.ContainsFunc(x.Args, func(y tree.Type) bool { return has(y, name, hidden) })
}

// P5.1: of random items Size is told as the chapter says; two calls tell the same.
func TestRandomSize(t *testing.T) {
	m := &maker{Rand: rand.New(rand.NewSource(5))}
	some := 0
	for range 20000 {
		var l []tree.Item
		for range m.Intn(7) {
			l = append(l, m.item())
		}
		tab, errs := names.New(l)
		again, same := names.New(l)
		if !slices.Equal(errs, same) || !reflect.DeepEqual(tab, again) {
			t.Fatal(errs, same)
		}
		got, want := ofCode(errs, api.Size), wanted(l)
		if !slices.Equal(got, want) {
			t.Fatalf("%s\nSize at %v, want %v", tree.Print(l), got, want)
		}
		if len(want) > 0 {
			some++
		}
	}
	if some < 1000 {
		t.Error(some)
	}
}

// cells: how much memory a type takes, where a pointer, or a number, takes 1; -1: it has no end.
func cells(tab *names.Table, x tree.Type, stands map[string]int, deep int) int {
	if x.Kind != tree.TName {
		return 1
	}
	if n, ok := stands[x.Name]; ok {
		return n
	}
	s, ok := tab.Struct(x.Name)
	if !ok || deep == 0 {
		return -1
	}
	inner := map[string]int{}
	for i, name := range s.Gen.Types {
		inner[name] = cells(tab, x.Args[i], stands, deep-1)
		if inner[name] < 0 {
			return -1
		}
	}
	sum := 0
	for _, f := range s.Fields {
		n := cells(tab, f.Type, inner, deep-1)
		if n < 0 {
			return -1
		}
		sum += n
	}
	return sum
}

// P5.2: where nothing is told, there is one impl at most of each trait and head, and each struct has a size, whatever its type parameters stand for.
func TestNoOverlap(t *testing.T) {
	m := &maker{Rand: rand.New(rand.NewSource(52))}
	right, overlaps := 0, 0
	for range 200000 {
		var l []tree.Item
		for range 1 + m.Intn(5) {
			l = append(l, m.item())
		}
		tab, errs := names.New(l)
		impls, overlap := map[[2]string]int{}, false
		for _, x := range l {
			if x.Kind == tree.IImpl {
				impls[[2]string{x.Name, x.Head}]++
				overlap = overlap || impls[[2]string{x.Name, x.Head}] > 1
			}
		}
		if overlap {
			overlaps++
		}
		if len(errs) > 0 {
			continue
		}
		right++
		if overlap {
			t.Fatal(tree.Print(l))
		}
		for _, x := range l {
			if x.Kind != tree.IStruct {
				continue
			}
			of := tree.Type{Kind: tree.TName, Name: x.Name}
			for range x.Gen.Types {
				of.Args = append(of.Args, tree.Type{Kind: tree.TInt})
			}
			if cells(tab, of, nil, 100) < 0 {
				t.Fatal(tree.Print(l))
			}
		}
	}
	if right < 5000 || overlaps < 1000 {
		t.Error(right, overlaps)
	}
}
