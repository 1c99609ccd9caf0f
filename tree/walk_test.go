package tree_test

import (
	"strings"
	"testing"

	"chattel/tree"
)

func does(e ...tree.Expr) []tree.Stmt { return []tree.Stmt{{Kind: tree.SExpr, E: e}} }

// seen is the names of all expressions that a walk comes to.
func seen(walk func(func(tree.Expr))) string {
	var l []string
	walk(func(e tree.Expr) { l = append(l, e.Name) })
	return strings.Join(l, " ")
}

// P3.1: Walk: Args and what is in them, then the Body's, then itself, whatever the kind.
func TestWalk(t *testing.T) {
	tests := []struct {
		of   tree.Expr
		want string
	}{
		{a, "a"},
		{tree.Expr{}, ""},
		{node(tree.EBin, "+", a, b), "a b +"},
		{node(tree.EBin, "+", node(tree.EBin, "*", a, b), node(tree.EUn, "-", c)), "a b * c - +"},
		{node(tree.EMethod, "m", a, node(tree.ECall, "f", b, c), c, a), "a b c f c a m"},
		{tree.Expr{Kind: tree.EClosure, Name: "T", Names: []string{"x"}, Args: []tree.Expr{c, c}, Body: does(node(tree.ECall, "f", a), b)}, "c c a f b T"},
		{tree.Expr{Kind: tree.EStruct, Name: "S", Names: []string{"f"}, Args: []tree.Expr{a, b}}, "a b S"},
		{tree.Expr{Kind: 99, Name: "?", Args: one(a), Body: does(b)}, "a b ?"},
		{tree.Expr{Kind: tree.EVar, Name: "x", Args: one(a), Body: does(b)}, "a b x"},
		{node(tree.EUn, "-", tree.Expr{Kind: tree.EClosure, Name: "T", Body: does(tree.Expr{Kind: tree.EClosure, Name: "U", Body: does(a)})}), "a U T -"},
	}
	for _, x := range tests {
		if got := seen(func(see func(tree.Expr)) { tree.Walk(x.of, see) }); got != x.want {
			t.Errorf("Walk(%+v): %q, want %q", x.of, got, x.want)
		}
	}
}

// P3.1: WalkAll: of Place, E, Body, Else, whatever the kind.
func TestWalkAll(t *testing.T) {
	all := func(kind int) tree.Stmt {
		return tree.Stmt{Kind: kind, Place: []tree.Expr{node(tree.EUn, "p", a), b}, E: []tree.Expr{node(tree.EUn, "e", c), b}, Body: append(does(variable("x")), does(variable("y"))...), Else: does(variable("z")), Other: kind == tree.SIf}
	}
	const want = "a p b c e b x y z"
	for kind := -1; kind < 11; kind++ {
		l := []tree.Stmt{all(kind), {Kind: tree.SExpr, E: one(variable("last"))}}
		if got := seen(func(see func(tree.Expr)) { tree.WalkAll(l, see) }); got != want+" last" {
			t.Errorf("of kind %d: %q", kind, got)
		}
	}
	if got := seen(func(see func(tree.Expr)) { tree.WalkAll(nil, see) }); got != "" {
		t.Error(got)
	}
}

// P3.1: what is seen is the expression itself, with its parts.
func TestWalkSees(t *testing.T) {
	e := node(tree.ECall, "f", tree.Expr{Kind: tree.EInt, Val: 7})
	tree.Walk(e, func(x tree.Expr) {
		if got := tree.PrintExpr(x); got != "7" && got != "f ( 7 )" {
			t.Error(got)
		}
	})
}

// P3.1: a nil function: nothing.
func TestWalkNil(t *testing.T) {
	tree.Walk(node(tree.EUn, "-", a), nil)
	tree.Walk(tree.Expr{Kind: tree.EClosure, Body: does(a)}, nil)
	tree.WalkAll(does(a, b), nil)
	tree.WalkAll(nil, nil)
}

// P3.1: what see panics with goes on.
func TestWalkPanics(t *testing.T) {
	defer func() {
		if recover() != "a" {
			t.Error("no panic")
		}
	}()
	tree.WalkAll(does(a, b), func(e tree.Expr) { panic(e.Name) })
}
