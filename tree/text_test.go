package tree_test

import (
	"slices"
	"testing"

	"chattel/api"
	"chattel/lex"
	"chattel/tree"
)

func name(s string) tree.Type { return tree.Type{Kind: tree.TName, Name: s} }

func box(l ...tree.Type) tree.Type { return tree.Type{Kind: tree.TBox, Args: l} }

func ref(life string, mut bool, l ...tree.Type) tree.Type {
	return tree.Type{Kind: tree.TRef, Life: life, Mut: mut, Args: l}
}

func dyn(trait, life string) tree.Type {
	return tree.Type{Kind: tree.TDyn, Name: trait, Life: life}
}

func variable(s string) tree.Expr { return tree.Expr{Kind: tree.EVar, Name: s} }

func node(kind int, name string, l ...tree.Expr) tree.Expr {
	return tree.Expr{Kind: kind, Name: name, Args: l}
}

func one(e tree.Expr) []tree.Expr { return []tree.Expr{e} }

var (
	integer = tree.Type{Kind: tree.TInt}
	boolean = tree.Type{Kind: tree.TBool}
	float   = tree.Type{Kind: tree.TFloat}
	unit    = tree.Type{Kind: tree.TUnit}
	a       = variable("a")
	b       = variable("b")
	c       = variable("c")
)

// P3.1: the numbers of kinds.
func TestKinds(t *testing.T) {
	lists := [][]int{
		{tree.TInt, tree.TBool, tree.TFloat, tree.TUnit, tree.TName, tree.TBox, tree.TRef, tree.TDyn},
		{tree.Own, tree.Shared, tree.Unique},
		{tree.IStruct, tree.ITrait, tree.IImpl, tree.IFn},
		{tree.SLet, tree.SSet, tree.SExpr, tree.SIf, tree.SWhile, tree.SReturn, tree.SAbort, tree.SBlock},
		{tree.EInt, tree.EBool, tree.EFloat, tree.EUnit, tree.EVar, tree.EField, tree.EDeref, tree.ERef, tree.EBox, tree.EUnbox, tree.EStruct, tree.ECall, tree.EMethod, tree.EBin, tree.EUn, tree.EChoose, tree.EClosure, tree.EParen},
	}
	for _, l := range lists {
		for i, k := range l {
			if k != i+1 {
				t.Errorf("%v: %d is at %d", l, k, i)
			}
		}
	}
}

// P3.1: types.
func TestPrintType(t *testing.T) {
	tests := []struct {
		of   tree.Type
		want string
	}{
		{integer, "int"},
		{boolean, "bool"},
		{float, "f64"},
		{unit, "( )"},
		{name("S"), "S"},
		{tree.Type{Kind: tree.TName, Name: "S", Lifes: []string{"'a"}}, "S < 'a >"},
		{tree.Type{Kind: tree.TName, Name: "S", Args: []tree.Type{integer}}, "S < int >"},
		{tree.Type{Kind: tree.TName, Name: "S", Lifes: []string{"'a", "'b"}, Args: []tree.Type{integer, box(name("T")), ref("", false, boolean)}}, "S < 'a , 'b , int , Box < T > , & bool >"},
		{ref("'a", true, box(integer)), "& 'a mut Box < int >"},
		{ref("", false, integer), "& int"},
		{ref("", true, integer), "& mut int"},
		{ref("'a", false, ref("", true, unit)), "& 'a & mut ( )"},
		{dyn("T", ""), "dyn T"},
		{dyn("T", "'a"), "dyn T + 'a"},
		{ref("'a", false, dyn("T", "'b")), "& 'a dyn T + 'b"},
		// what isn't there, and what is there too often
		{tree.Type{}, ""},
		{tree.Type{Kind: 9, Name: "S", Life: "'a", Args: []tree.Type{integer}}, ""},
		{tree.Type{Kind: -1, Name: "S"}, ""},
		{tree.Type{Kind: tree.TInt, Name: "S", Life: "'a", Mut: true, Lifes: []string{"'a"}, Args: []tree.Type{boolean}}, "int"},
		{tree.Type{Kind: tree.TName, Name: "S", Life: "'a", Mut: true}, "S"},
		{name(""), ""},
		{tree.Type{Kind: tree.TName, Lifes: []string{""}, Args: []tree.Type{name("")}}, " <  ,  >"},
		{tree.Type{Kind: tree.TName, Name: "S", Args: []tree.Type{{}, {Kind: 9}}}, "S < , >"},
		{box(), "Box < >"},
		{box(integer, boolean), "Box < int , bool >"},
		{box(tree.Type{}, boolean), "Box < , bool >"},
		{tree.Type{Kind: tree.TBox, Name: "S", Life: "'a", Lifes: []string{"'a"}, Args: []tree.Type{integer}}, "Box < int >"},
		{ref("", true), "& mut"},
		{ref("'a", false, integer, boolean, float), "& 'a int , bool , f64"},
		{tree.Type{Kind: tree.TDyn, Name: "T", Mut: true, Lifes: []string{"'a"}, Args: []tree.Type{integer}}, "dyn T"},
		{dyn("", "'a"), "dyn  + 'a"},
		{dyn("", ""), "dyn "},
	}
	for _, x := range tests {
		if got := tree.PrintType(x.of); got != x.want {
			t.Errorf("PrintType(%+v) = %q, want %q", x.of, got, x.want)
		}
	}
}

// printed is an expression, and its text.
type printed struct {
	of   tree.Expr
	want string
}

func checkPrinted(t *testing.T, tests []printed) {
	t.Helper()
	for _, x := range tests {
		if got := tree.PrintExpr(x.of); got != x.want {
			t.Errorf("PrintExpr(%+v) = %q, want %q", x.of, got, x.want)
		}
	}
}

// P3.1: expressions.
func TestPrintExpr(t *testing.T) {
	checkPrinted(t, []printed{
		{tree.Expr{Kind: tree.EInt}, "0"},
		{tree.Expr{Kind: tree.EInt, Val: 120}, "120"},
		{tree.Expr{Kind: tree.EInt, Val: 1<<63 - 1}, "9223372036854775807"},
		{tree.Expr{Kind: tree.EBool, Val: 1}, "true"},
		{tree.Expr{Kind: tree.EBool}, "false"},
		{tree.Expr{Kind: tree.EFloat}, "0f0000000000000000"},
		{tree.Expr{Kind: tree.EFloat, Val: 0x3ff0000000000000}, "0f3ff0000000000000"},
		{tree.Expr{Kind: tree.EFloat, Val: 1<<64 - 1}, "0fffffffffffffffff"},
		{tree.Expr{Kind: tree.EUnit}, "( )"},
		{a, "a"},
		{variable("self"), "self"},
		{node(tree.EField, "f", a), "a . f"},
		{node(tree.EField, "g", node(tree.EField, "f", a)), "a . f . g"},
		{node(tree.EDeref, "", a), "* a"},
		{node(tree.ERef, "", a), "& a"},
		{tree.Expr{Kind: tree.ERef, Mut: true, Args: one(a)}, "& mut a"},
		{node(tree.EBox, "", a), "Box ( a )"},
		{node(tree.EUnbox, "", a), "unbox ( a )"},
		{tree.Expr{Kind: tree.EStruct, Name: "S"}, "new S { }"},
		{tree.Expr{Kind: tree.EStruct, Name: "S", Names: []string{"f"}, Args: one(a)}, "new S { f : a }"},
		{tree.Expr{Kind: tree.EStruct, Name: "S", Names: []string{"f", "g"}, Args: []tree.Expr{a, b}}, "new S { f : a , g : b }"},
		{node(tree.ECall, "f"), "f ( )"},
		{node(tree.ECall, "f", a, b, c), "f ( a , b , c )"},
		{node(tree.EMethod, "m", a), "a . m ( )"},
		{node(tree.EMethod, "m", a, b, c), "a . m ( b , c )"},
		{node(tree.EBin, "&&", a, b), "a && b"},
		{node(tree.EBin, "+", node(tree.EBin, "*", a, b), c), "a * b + c"},
		{node(tree.EUn, "-", a), "- a"},
		{node(tree.EUn, "!", node(tree.EUn, "-", a)), "! - a"},
		{node(tree.EChoose, ""), "choose"},
		{tree.Expr{Kind: tree.EClosure, Name: "T"}, "as T | | { }"},
		{tree.Expr{Kind: tree.EClosure, Name: "T", Names: []string{"x", "y"}, Body: []tree.Stmt{{Kind: tree.SAbort}, {Kind: tree.SExpr, E: one(a)}}}, "as T | x , y | { abort ; a ; }"},
		{node(tree.EParen, "", a), "( a )"},
	})
}

// P3.1: expressions that have what isn't theirs.
func TestPrintExprTooMuch(t *testing.T) {
	all := func(kind int) tree.Expr {
		return tree.Expr{Kind: kind, Name: "n", Val: 7, Args: []tree.Expr{a, b, c}, Names: []string{"x", "y"}, Body: []tree.Stmt{{Kind: tree.SAbort}}}
	}
	checkPrinted(t, []printed{
		{all(0), ""},
		{all(19), ""},
		{all(-1), ""},
		{all(tree.EInt), "7"},
		{all(tree.EBool), "false"},
		{tree.Expr{Kind: tree.EBool, Val: 1<<63 + 1}, "false"},
		{all(tree.EFloat), "0f0000000000000007"},
		{all(tree.EUnit), "( )"},
		{all(tree.EVar), "n"},
		{all(tree.EField), "a . n"},
		{all(tree.EDeref), "* a"},
		{all(tree.ERef), "& a"},
		{all(tree.EBox), "Box ( a )"},
		{all(tree.EUnbox), "unbox ( a )"},
		{all(tree.EStruct), "new n { x : a , y : b }"},
		{all(tree.ECall), "n ( a , b , c )"},
		{all(tree.EMethod), "a . n ( b , c )"},
		{all(tree.EBin), "a n b"},
		{all(tree.EUn), "n a"},
		{all(tree.EChoose), "choose"},
		{all(tree.EClosure), "as n | x , y | { abort ; }"},
		{all(tree.EParen), "( a )"},
	})
}

// P3.1: expressions whose parts aren't there, or have no tokens.
func TestPrintExprTooLittle(t *testing.T) {
	checkPrinted(t, []printed{
		{tree.Expr{Kind: tree.EInt, Val: 1 << 63}, "0"},
		{tree.Expr{Kind: tree.EInt, Val: 1<<64 - 1}, "9223372036854775807"},
		{tree.Expr{Kind: tree.EInt, Val: 1<<63 + 5}, "5"},
		{node(tree.EField, "f"), ". f"},
		{node(tree.EDeref, ""), "*"},
		{tree.Expr{Kind: tree.ERef, Mut: true}, "& mut"},
		{node(tree.EBox, ""), "Box ( )"},
		{node(tree.EUnbox, ""), "unbox ( )"},
		{tree.Expr{Kind: tree.EStruct, Name: "S", Names: []string{"f", "g"}, Args: one(a)}, "new S { f : a }"},
		{tree.Expr{Kind: tree.EStruct, Name: "S", Names: []string{"f", "g"}}, "new S { }"},
		{tree.Expr{Kind: tree.EStruct, Name: "S", Args: one(a)}, "new S { }"},
		{tree.Expr{Kind: tree.EStruct, Names: []string{"", ""}, Args: []tree.Expr{a, {}}}, "new  {  : a ,  : }"},
		{node(tree.EMethod, "m"), ". m ( )"},
		{node(tree.EBin, "+"), "+"},
		{node(tree.EBin, "+", a), "a +"},
		{node(tree.EBin, "+", tree.Expr{}, b), "+ b"},
		{node(tree.EBin, "", a, b), "a  b"},
		{node(tree.EUn, "-"), "-"},
		{node(tree.EUn, "", a), " a"},
		{node(tree.EParen, ""), "( )"},
		{node(tree.EParen, "", tree.Expr{}), "( )"},
		{variable(""), ""},
		{node(tree.ECall, ""), " ( )"},
		{node(tree.ECall, "f", tree.Expr{}, a, tree.Expr{Kind: 99}), "f ( , a , )"},
		{node(tree.ECall, "f", variable(""), variable("")), "f (  ,  )"},
		{tree.Expr{Kind: tree.EClosure, Names: []string{"", "x"}}, "as  |  , x | { }"},
	})
}

// P3.1: statements, as a closure has them.
func TestPrintStatements(t *testing.T) {
	body := []tree.Stmt{{Kind: tree.SAbort}}
	tests := []struct {
		of   tree.Stmt
		want string
	}{
		{tree.Stmt{Kind: tree.SLet, Name: "x"}, "let x ;"},
		{tree.Stmt{Kind: tree.SLet, Name: "x", Type: integer}, "let x : int ;"},
		{tree.Stmt{Kind: tree.SLet, Name: "x", E: one(a)}, "let x = a ;"},
		{tree.Stmt{Kind: tree.SLet, Name: "x", Type: ref("", true, integer), E: one(a)}, "let x : & mut int = a ;"},
		{tree.Stmt{Kind: tree.SSet, Place: one(a), E: one(b)}, "a = b ;"},
		{tree.Stmt{Kind: tree.SExpr, E: one(a)}, "a ;"},
		{tree.Stmt{Kind: tree.SIf, E: one(a), Body: body}, "if a { abort ; }"},
		{tree.Stmt{Kind: tree.SIf, E: one(a), Body: body, Else: body, Other: true}, "if a { abort ; } else { abort ; }"},
		{tree.Stmt{Kind: tree.SIf, E: one(a), Other: true}, "if a { } else { }"},
		{tree.Stmt{Kind: tree.SWhile, E: one(a), Body: body}, "while a { abort ; }"},
		{tree.Stmt{Kind: tree.SReturn}, "return ;"},
		{tree.Stmt{Kind: tree.SReturn, E: one(a)}, "return a ;"},
		{tree.Stmt{Kind: tree.SAbort}, "abort ;"},
		{tree.Stmt{Kind: tree.SBlock}, "{ }"},
		{tree.Stmt{Kind: tree.SBlock, Body: []tree.Stmt{{Kind: tree.SBlock, Body: body}, {Kind: tree.SReturn}}}, "{ { abort ; } return ; }"},
		// what isn't there, and what is there too often
		{tree.Stmt{}, ""},
		{tree.Stmt{Kind: 9, Name: "x", E: one(a), Body: body}, ""},
		{tree.Stmt{Kind: -8, Body: body}, ""},
		{tree.Stmt{Kind: tree.SLet}, "let  ;"},
		{tree.Stmt{Kind: tree.SLet, Name: "x", Type: tree.Type{Kind: 9}, E: one(tree.Expr{})}, "let x : = ;"},
		{tree.Stmt{Kind: tree.SLet, Name: "x", Place: one(c), E: []tree.Expr{a, b}, Body: body, Else: body, Other: true}, "let x = a , b ;"},
		{tree.Stmt{Kind: tree.SSet}, "= ;"},
		{tree.Stmt{Kind: tree.SSet, Name: "x", Type: integer, Place: []tree.Expr{a, b}, E: []tree.Expr{c, a, b}}, "a , b = c , a , b ;"},
		{tree.Stmt{Kind: tree.SExpr}, ";"},
		{tree.Stmt{Kind: tree.SExpr, Place: one(c), E: []tree.Expr{a, b}}, "a , b ;"},
		{tree.Stmt{Kind: tree.SIf, Else: body}, "if { }"},
		{tree.Stmt{Kind: tree.SIf, E: []tree.Expr{a, b}}, "if a , b { }"},
		{tree.Stmt{Kind: tree.SWhile, E: []tree.Expr{a, b}, Else: body, Other: true}, "while a , b { }"},
		{tree.Stmt{Kind: tree.SReturn, E: []tree.Expr{a, b}}, "return a , b ;"},
		{tree.Stmt{Kind: tree.SAbort, E: one(a)}, "abort ;"},
		{tree.Stmt{Kind: tree.SBlock, E: one(a), Else: body, Other: true}, "{ }"},
	}
	for _, x := range tests {
		want := "as T | | { " + x.want + " }"
		if x.want == "" {
			want = "as T | | { }"
		}
		if got := tree.PrintExpr(tree.Expr{Kind: tree.EClosure, Name: "T", Body: []tree.Stmt{x.of}}); got != want {
			t.Errorf("%+v: %q, want %q", x.of, got, want)
		}
	}
}

// P3.1: items.
func TestPrint(t *testing.T) {
	x, y := tree.Param{Name: "x", Type: integer}, tree.Param{Name: "y", Type: ref("'a", false, name("T"))}
	where := []tree.Bound{{Name: "'a", Lifes: []string{"'b", "'static"}}, {Name: "T", Traits: []string{"A", "B"}, Lifes: []string{"'a"}}, {Name: "U", Traits: []string{"A"}}}
	const whereText = "where 'a : 'b + 'static , T : A + B + 'a , U : A"
	body := []tree.Stmt{{Kind: tree.SReturn, E: one(a)}}
	both := tree.Generics{Lifes: []string{"'a", "'b"}, Types: []string{"T", "U"}}
	tests := []struct {
		of   tree.Item
		want string
	}{
		{tree.Item{Kind: tree.IStruct, Name: "S"}, "struct S { }"},
		{tree.Item{Kind: tree.IStruct, Name: "S", Gen: both, Fields: []tree.Param{x, y}}, "struct S < 'a , 'b , T , U > { x : int , y : & 'a T }"},
		{tree.Item{Kind: tree.IStruct, Name: "S", Gen: tree.Generics{Types: []string{"T"}}, Fields: []tree.Param{x}}, "struct S < T > { x : int }"},
		{tree.Item{Kind: tree.IStruct, Name: "S", Gen: tree.Generics{Lifes: []string{"'a"}}}, "struct S < 'a > { }"},
		{tree.Item{Kind: tree.ITrait, Name: "T"}, "trait T { }"},
		{tree.Item{Kind: tree.IImpl, Name: "T", Head: "int"}, "impl T for int { }"},
		{tree.Item{Kind: tree.IImpl, Name: "T", Head: "S", Where: where}, "impl T for S " + whereText + " { }"},
		{tree.Item{Kind: tree.IFn, Name: "f"}, "fn f ( ) { }"},
		{tree.Item{Kind: tree.IFn, Name: "f", Gen: both, Fields: []tree.Param{x, y}, Ret: unit, Where: where, Body: body}, "fn f < 'a , 'b , T , U > ( x : int , y : & 'a T ) -> ( ) " + whereText + " { return a ; }"},
		// what isn't there, and what isn't theirs
		{tree.Item{}, ""},
		{tree.Item{Kind: 5, Name: "f", Body: body}, ""},
		{tree.Item{Kind: tree.IStruct, Head: "int", Ret: unit, Where: where, Methods: []tree.Method{{}}, Body: body}, "struct  { }"},
		{tree.Item{Kind: tree.ITrait, Head: "int", Gen: both, Fields: []tree.Param{x}, Ret: unit, Where: where, Body: body}, "trait  { }"},
		{tree.Item{Kind: tree.IImpl, Gen: both, Fields: []tree.Param{x}, Ret: unit, Body: body}, "impl  for  { }"},
		{tree.Item{Kind: tree.IFn, Head: "int", Methods: []tree.Method{{}}}, "fn  ( ) { }"},
		{tree.Item{Kind: tree.IFn, Name: "f", Ret: tree.Type{Kind: 9}}, "fn f ( ) -> { }"},
		{tree.Item{Kind: tree.IFn, Name: "f", Fields: []tree.Param{{Name: "x"}, {}, {Name: "y", Type: tree.Type{Kind: -1}}}}, "fn f ( x ,  , y : ) { }"},
		{tree.Item{Kind: tree.IFn, Name: "f", Where: []tree.Bound{{}, {Name: "T", Lifes: []string{"", "'a"}}, {Name: "'a", Traits: []string{"", "A"}}}}, "fn f ( ) where  : , T :  + 'a , 'a :  + A { }"},
		{tree.Item{Kind: tree.IFn, Name: "f", Gen: tree.Generics{Lifes: []string{""}, Types: []string{"", ""}}}, "fn f <  ,  ,  > ( ) { }"},
	}
	for _, x := range tests {
		if got := tree.Print([]tree.Item{x.of}); got != x.want {
			t.Errorf("Print(%+v) = %q, want %q", x.of, got, x.want)
		}
	}
	if got := tree.Print(nil); got != "" {
		t.Errorf("%q", got)
	}
	l := []tree.Item{{Kind: tree.IStruct, Name: "S"}, {}, {Kind: tree.IFn, Name: "f"}, {Kind: 9}}
	if got := tree.Print(l); got != "struct S { } fn f ( ) { }" {
		t.Errorf("%q", got)
	}
}

// P3.1: heads, a trait's and an impl's.
func TestPrintHeads(t *testing.T) {
	x := tree.Param{Name: "x", Type: integer}
	tests := []struct {
		of   tree.Method
		want string
	}{
		{tree.Method{Name: "m", Recv: tree.Own}, "fn m ( self )"},
		{tree.Method{Name: "m", Recv: tree.Shared}, "fn m ( & self )"},
		{tree.Method{Name: "m", Recv: tree.Unique}, "fn m ( & mut self )"},
		{tree.Method{Name: "m", Recv: tree.Own, Life: "'a"}, "fn m ( self )"},
		{tree.Method{Name: "m", Recv: tree.Shared, Life: "'a"}, "fn m ( & 'a self )"},
		{tree.Method{Name: "m", Recv: tree.Unique, Life: "'a"}, "fn m ( & 'a mut self )"},
		{tree.Method{Name: "m", Recv: 0, Life: "'a"}, "fn m ( & 'a self )"},
		{tree.Method{Name: "m", Recv: 4}, "fn m ( & self )"},
		{tree.Method{Name: "m", Recv: -1}, "fn m ( & self )"},
		{tree.Method{Recv: tree.Own}, "fn  ( self )"},
		{tree.Method{Name: "m", Recv: tree.Own, Lifes: []string{"'a", "'b"}}, "fn m < 'a , 'b > ( self )"},
		{tree.Method{Name: "m", Recv: tree.Own, Params: []tree.Param{x}}, "fn m ( self , x : int )"},
		{tree.Method{Name: "m", Recv: tree.Own, Params: []tree.Param{x, x}, Ret: boolean, Where: []tree.Bound{{Name: "'a", Lifes: []string{"'b"}}}}, "fn m ( self , x : int , x : int ) -> bool where 'a : 'b"},
		{tree.Method{Name: "m", Recv: tree.Own, Ret: tree.Type{Kind: 9}}, "fn m ( self ) ->"},
	}
	for _, x := range tests {
		m := x.of
		m.Body = []tree.Stmt{{Kind: tree.SAbort}}
		trait := tree.Item{Kind: tree.ITrait, Name: "T", Methods: []tree.Method{m, m}}
		if got, want := tree.Print([]tree.Item{trait}), "trait T { "+x.want+" ; "+x.want+" ; }"; got != want {
			t.Errorf("%q, want %q", got, want)
		}
		impl := tree.Item{Kind: tree.IImpl, Name: "T", Head: "S", Methods: []tree.Method{m, x.of}}
		if got, want := tree.Print([]tree.Item{impl}), "impl T for S { "+x.want+" { abort ; } "+x.want+" { } }"; got != want {
			t.Errorf("%q, want %q", got, want)
		}
	}
}

// P3.1: a text hangs on no place, and lists that are handed in, and their spare room, stay as they are.
func TestPrintChangesNothing(t *testing.T) {
	params := []tree.Param{{Name: "x", Type: integer, At: api.Pos{Line: 3, Col: 4}}, {Name: "spare"}}
	traits := []string{"A", "spare"}
	lifes := []string{"'a", "spare"}
	args := []tree.Expr{a, b, c}
	l := []tree.Item{{Kind: tree.IFn, Name: "f", Fields: params[:1], Where: []tree.Bound{{Name: "T", Traits: traits[:1], Lifes: lifes[:1]}}, Body: []tree.Stmt{{Kind: tree.SExpr, E: one(node(tree.EMethod, "m", args[:2]...))}}, At: api.Pos{Line: 1, Col: 1}}}
	for range 2 {
		if got := tree.Print(l); got != "fn f ( x : int ) where T : A + 'a { a . m ( b ) ; }" {
			t.Errorf("%q", got)
		}
	}
	if params[1].Name != "spare" || !slices.Equal(traits, []string{"A", "spare"}) || !slices.Equal(lifes, []string{"'a", "spare"}) || args[2].Name != "c" {
		t.Error("changed")
	}
}

// nested is an expression in which as many parts are nested in one another as the document allows.
const nested = 1 << 16

// P3.1: what is nested deep.
func TestPrintNested(t *testing.T) {
	e, x, s := a, integer, tree.Stmt{Kind: tree.SBlock}
	for range nested - 1 {
		e, x, s = node(tree.EUn, "-", e), box(x), tree.Stmt{Kind: tree.SIf, Body: []tree.Stmt{s}}
	}
	if got := tree.PrintExpr(e); len(got) != 2*nested-1 {
		t.Error(len(got))
	}
	if got := tree.PrintType(x); len(got) != 8*(nested-1)+3 {
		t.Error(len(got))
	}
	if got := tree.Print([]tree.Item{{Kind: tree.IFn, Body: []tree.Stmt{s}}}); len(got) != 7*(nested-1)+len("fn  ( ) { { } }") {
		t.Error(len(got))
	}
	n := 0
	tree.Walk(e, func(tree.Expr) { n++ })
	if n != nested {
		t.Error(n)
	}
}

// P3.1: the text is Put's, of the tokens.
func TestPrintTokens(t *testing.T) {
	e := node(tree.EBin, "|", node(tree.ECall, "f", a), tree.Expr{Kind: tree.EFloat, Val: 5})
	if got, want := tree.PrintExpr(e), lex.Put("f", "(", "a", ")", "|", "0f0000000000000005"); got != want {
		t.Errorf("%q, want %q", got, want)
	}
}
