package parse_test

import (
	"reflect"
	"slices"
	"strings"
	"testing"

	"chattel/api"
	"chattel/parse"
	"chattel/tree"
)

func at(line, col int) api.Pos { return api.Pos{Line: line, Col: col} }

func fails(code api.Errno, line, col int) api.Err { return api.Err{Code: code, At: at(line, col)} }

// programTold, typeTold, exprTold: what is told of a text, and that nothing is answered beside an error.
func programTold(t *testing.T, s string) api.Err {
	t.Helper()
	l, e := parse.Program(s)
	if e != (api.Err{}) && l != nil {
		t.Errorf("%q: %v beside %v", s, l, e)
	}
	return e
}

func typeTold(t *testing.T, s string) api.Err {
	t.Helper()
	x, e := parse.Type(s)
	if e != (api.Err{}) && !reflect.DeepEqual(x, tree.Type{}) {
		t.Errorf("%q: %v beside %v", s, x, e)
	}
	return e
}

func exprTold(t *testing.T, s string) api.Err {
	t.Helper()
	x, e := parse.Expr(s)
	if e != (api.Err{}) && !reflect.DeepEqual(x, tree.Expr{}) {
		t.Errorf("%q: %v beside %v", s, x, e)
	}
	return e
}

func integer(line, col int) tree.Type { return tree.Type{Kind: tree.TInt, At: at(line, col)} }

func variable(s string, line, col int) tree.Expr {
	return tree.Expr{Kind: tree.EVar, Name: s, At: at(line, col)}
}

// P4.1: items, with all places.
func TestItems(t *testing.T) {
	const text = `struct S < 'a , T > { x : int , y : & 'a mut T }
 trait R { fn m ( self ) ; fn n < 'b > ( & 'b mut self , x : int ) -> int where 'b : 'a ; fn o ( & self ) ; }
impl R for S where T : R + A + 'a , 'a : 'b + 'c { fn m ( self ) { abort ; } }
  fn f < U > ( x : int ) -> ( ) where U : R { return ; }
fn g ( ) { }`
	want := []tree.Item{
		{Kind: tree.IStruct, Name: "S", Gen: tree.Generics{Lifes: []string{"'a"}, Types: []string{"T"}}, At: at(1, 1), Fields: []tree.Param{
			{Name: "x", Type: integer(1, 27), At: at(1, 23)},
			{Name: "y", At: at(1, 33), Type: tree.Type{Kind: tree.TRef, Life: "'a", Mut: true, At: at(1, 37), Args: []tree.Type{{Kind: tree.TName, Name: "T", At: at(1, 46)}}}},
		}},
		{Kind: tree.ITrait, Name: "R", At: at(2, 2), Methods: []tree.Method{
			{Name: "m", Recv: tree.Own, At: at(2, 12)},
			{Name: "n", Lifes: []string{"'b"}, Recv: tree.Unique, Life: "'b", Params: []tree.Param{{Name: "x", Type: integer(2, 62), At: at(2, 58)}}, Ret: integer(2, 71), Where: []tree.Bound{{Name: "'b", Lifes: []string{"'a"}, At: at(2, 81)}}, At: at(2, 28)},
			{Name: "o", Recv: tree.Shared, At: at(2, 91)},
		}},
		{Kind: tree.IImpl, Name: "R", Head: "S", At: at(3, 1), Where: []tree.Bound{
			{Name: "T", Traits: []string{"R", "A"}, Lifes: []string{"'a"}, At: at(3, 20)},
			{Name: "'a", Lifes: []string{"'b", "'c"}, At: at(3, 37)},
		}, Methods: []tree.Method{{Name: "m", Recv: tree.Own, Body: []tree.Stmt{{Kind: tree.SAbort, At: at(3, 68)}}, At: at(3, 52)}}},
		{Kind: tree.IFn, Name: "f", At: at(4, 3), Gen: tree.Generics{Types: []string{"U"}}, Fields: []tree.Param{{Name: "x", Type: integer(4, 20), At: at(4, 16)}},
			Ret: tree.Type{Kind: tree.TUnit, At: at(4, 29)}, Where: []tree.Bound{{Name: "U", Traits: []string{"R"}, At: at(4, 39)}}, Body: []tree.Stmt{{Kind: tree.SReturn, At: at(4, 47)}}},
		{Kind: tree.IFn, Name: "g", At: at(5, 1)},
	}
	l, e := parse.Program(text)
	if e != (api.Err{}) || !reflect.DeepEqual(l, want) {
		t.Errorf("%v\n%+v\n%+v", e, l, want)
	}
	for _, head := range []string{"int", "bool", "f64", "S"} {
		l, e := parse.Program("impl R for " + head + " { }")
		if e != (api.Err{}) || len(l) != 1 || l[0].Head != head || l[0].Methods != nil {
			t.Errorf("%s: %+v, %v", head, l, e)
		}
	}
	if l, e := parse.Program(" \n"); l != nil || e != (api.Err{}) {
		t.Error(l, e)
	}
}

// P4.1: types, with all places.
func TestTypes(t *testing.T) {
	tests := []struct {
		text string
		want tree.Type
	}{
		{"int", integer(1, 1)},
		{"bool", tree.Type{Kind: tree.TBool, At: at(1, 1)}},
		{"\nf64", tree.Type{Kind: tree.TFloat, At: at(2, 1)}},
		{" ( )", tree.Type{Kind: tree.TUnit, At: at(1, 2)}},
		{"S", tree.Type{Kind: tree.TName, Name: "S", At: at(1, 1)}},
		{"S<'a,'b,int,&int>", tree.Type{Kind: tree.TName, Name: "S", Lifes: []string{"'a", "'b"}, At: at(1, 1), Args: []tree.Type{integer(1, 9), {Kind: tree.TRef, Args: []tree.Type{integer(1, 14)}, At: at(1, 13)}}}},
		{"S<'a>", tree.Type{Kind: tree.TName, Name: "S", Lifes: []string{"'a"}, At: at(1, 1)}},
		{"Box<Box<int>>", tree.Type{Kind: tree.TBox, At: at(1, 1), Args: []tree.Type{{Kind: tree.TBox, At: at(1, 5), Args: []tree.Type{integer(1, 9)}}}}},
		{"&mut int", tree.Type{Kind: tree.TRef, Mut: true, Args: []tree.Type{integer(1, 6)}, At: at(1, 1)}},
		{"& 'a int", tree.Type{Kind: tree.TRef, Life: "'a", Args: []tree.Type{integer(1, 6)}, At: at(1, 1)}},
		{"& 'a mut dyn T + 'b", tree.Type{Kind: tree.TRef, Life: "'a", Mut: true, At: at(1, 1), Args: []tree.Type{{Kind: tree.TDyn, Name: "T", Life: "'b", At: at(1, 10)}}}},
		{"dyn T", tree.Type{Kind: tree.TDyn, Name: "T", At: at(1, 1)}},
	}
	for _, x := range tests {
		if got, e := parse.Type(x.text); e != (api.Err{}) || !reflect.DeepEqual(got, x.want) {
			t.Errorf("Type(%q) = %+v, %v, want %+v", x.text, got, e, x.want)
		}
	}
}

// P4.1: expressions, with all places.
func TestExprs(t *testing.T) {
	a, b := variable("a", 1, 1), variable("b", 1, 5)
	tests := []struct {
		text string
		want tree.Expr
	}{
		{"120", tree.Expr{Kind: tree.EInt, Val: 120, At: at(1, 1)}},
		{"9223372036854775807", tree.Expr{Kind: tree.EInt, Val: 1<<63 - 1, At: at(1, 1)}},
		{"true", tree.Expr{Kind: tree.EBool, Val: 1, At: at(1, 1)}},
		{"false", tree.Expr{Kind: tree.EBool, At: at(1, 1)}},
		{"0ffff0000000000001", tree.Expr{Kind: tree.EFloat, Val: 0xfff0000000000001, At: at(1, 1)}},
		{"( )", tree.Expr{Kind: tree.EUnit, At: at(1, 1)}},
		{"a", a},
		{"self", variable("self", 1, 1)},
		{"choose", tree.Expr{Kind: tree.EChoose, At: at(1, 1)}},
		{"a . f", tree.Expr{Kind: tree.EField, Name: "f", Args: []tree.Expr{a}, At: at(1, 3)}},
		{"* a", tree.Expr{Kind: tree.EDeref, Args: []tree.Expr{variable("a", 1, 3)}, At: at(1, 1)}},
		{"& a", tree.Expr{Kind: tree.ERef, Args: []tree.Expr{variable("a", 1, 3)}, At: at(1, 1)}},
		{"& mut a", tree.Expr{Kind: tree.ERef, Mut: true, Args: []tree.Expr{variable("a", 1, 7)}, At: at(1, 1)}},
		{"- a", tree.Expr{Kind: tree.EUn, Name: "-", Args: []tree.Expr{variable("a", 1, 3)}, At: at(1, 1)}},
		{"! a", tree.Expr{Kind: tree.EUn, Name: "!", Args: []tree.Expr{variable("a", 1, 3)}, At: at(1, 1)}},
		{"Box ( a )", tree.Expr{Kind: tree.EBox, Args: []tree.Expr{variable("a", 1, 7)}, At: at(1, 1)}},
		{"unbox ( a )", tree.Expr{Kind: tree.EUnbox, Args: []tree.Expr{variable("a", 1, 9)}, At: at(1, 1)}},
		{"( a )", tree.Expr{Kind: tree.EParen, Args: []tree.Expr{variable("a", 1, 3)}, At: at(1, 1)}},
		{"new S { }", tree.Expr{Kind: tree.EStruct, Name: "S", At: at(1, 1)}},
		{"new S { x : 1 , y : a }", tree.Expr{Kind: tree.EStruct, Name: "S", Names: []string{"x", "y"}, Args: []tree.Expr{{Kind: tree.EInt, Val: 1, At: at(1, 13)}, variable("a", 1, 21)}, At: at(1, 1)}},
		{"f ( )", tree.Expr{Kind: tree.ECall, Name: "f", At: at(1, 1)}},
		{"f ( a , b )", tree.Expr{Kind: tree.ECall, Name: "f", Args: []tree.Expr{variable("a", 1, 5), variable("b", 1, 9)}, At: at(1, 1)}},
		{"a . m ( )", tree.Expr{Kind: tree.EMethod, Name: "m", Args: []tree.Expr{a}, At: at(1, 3)}},
		{"a . m ( b , 7 ) . f", tree.Expr{Kind: tree.EField, Name: "f", At: at(1, 17), Args: []tree.Expr{{Kind: tree.EMethod, Name: "m", Args: []tree.Expr{a, variable("b", 1, 9), {Kind: tree.EInt, Val: 7, At: at(1, 13)}}, At: at(1, 3)}}}},
		{"a + b", tree.Expr{Kind: tree.EBin, Name: "+", Args: []tree.Expr{a, b}, At: at(1, 3)}},
		{"as T | | { }", tree.Expr{Kind: tree.EClosure, Name: "T", At: at(1, 1)}},
		{"as T | x , y | { abort ; }", tree.Expr{Kind: tree.EClosure, Name: "T", Names: []string{"x", "y"}, Body: []tree.Stmt{{Kind: tree.SAbort, At: at(1, 18)}}, At: at(1, 1)}},
	}
	for _, x := range tests {
		if got, e := parse.Expr(x.text); e != (api.Err{}) || !reflect.DeepEqual(got, x.want) {
			t.Errorf("Expr(%q) = %+v, %v, want %+v", x.text, got, e, x.want)
		}
	}
}

// P4.1: statements, with all places.
func TestStatements(t *testing.T) {
	a := []tree.Expr{variable("a", 2, 2)}
	one := func(col int) []tree.Expr { return []tree.Expr{{Kind: tree.EInt, Val: 1, At: at(2, col)}} }
	abort := func(col int) []tree.Stmt { return []tree.Stmt{{Kind: tree.SAbort, At: at(2, col)}} }
	tests := []struct {
		text string
		want tree.Stmt
	}{
		{"let x ;", tree.Stmt{Kind: tree.SLet, Name: "x"}},
		{"let x : int ;", tree.Stmt{Kind: tree.SLet, Name: "x", Type: integer(2, 10)}},
		{"let x = 1 ;", tree.Stmt{Kind: tree.SLet, Name: "x", E: one(10)}},
		{"let x : int = 1 ;", tree.Stmt{Kind: tree.SLet, Name: "x", Type: integer(2, 10), E: one(16)}},
		{"a = 1 ;", tree.Stmt{Kind: tree.SSet, Place: a, E: one(6)}},
		{"a ;", tree.Stmt{Kind: tree.SExpr, E: a}},
		{"a . f ;", tree.Stmt{Kind: tree.SExpr, E: []tree.Expr{{Kind: tree.EField, Name: "f", Args: a, At: at(2, 4)}}}},
		{"if 1 { abort ; }", tree.Stmt{Kind: tree.SIf, E: one(5), Body: abort(9)}},
		{"if 1 { } else { }", tree.Stmt{Kind: tree.SIf, E: one(5), Other: true}},
		{"if 1 { abort ; } else { abort ; }", tree.Stmt{Kind: tree.SIf, E: one(5), Body: abort(9), Else: abort(26), Other: true}},
		{"while 1 { abort ; }", tree.Stmt{Kind: tree.SWhile, E: one(8), Body: abort(12)}},
		{"return ;", tree.Stmt{Kind: tree.SReturn}},
		{"return 1 ;", tree.Stmt{Kind: tree.SReturn, E: one(9)}},
		{"abort ;", tree.Stmt{Kind: tree.SAbort}},
		{"{ }", tree.Stmt{Kind: tree.SBlock}},
		{"{ abort ; }", tree.Stmt{Kind: tree.SBlock, Body: abort(4)}},
	}
	for _, x := range tests {
		x.want.At = at(2, 2)
		l, e := parse.Program("fn f ( ) {\n " + x.text + " abort ; }")
		if e != (api.Err{}) || len(l) != 1 || len(l[0].Body) != 2 || !reflect.DeepEqual(l[0].Body[0], x.want) {
			t.Errorf("%q: %+v, %v, want %+v", x.text, l, e, x.want)
		}
	}
}

// grouped is an expression with all that an operator joins in brackets.
func grouped(e tree.Expr) string {
	var l []string
	for _, x := range e.Args {
		l = append(l, grouped(x))
	}
	switch e.Kind {
	case tree.EBin:
		return "[" + strings.Join(l, e.Name) + "]"
	case tree.EUn:
		return "[" + e.Name + l[0] + "]"
	case tree.EDeref:
		return "[*" + l[0] + "]"
	case tree.ERef:
		if e.Mut {
			return "[&mut " + l[0] + "]"
		}
		return "[&" + l[0] + "]"
	case tree.EField:
		return "[" + l[0] + "." + e.Name + "]"
	case tree.EMethod:
		return "[" + l[0] + "." + e.Name + "(" + strings.Join(l[1:], ",") + ")]"
	case tree.EParen:
		return "(" + l[0] + ")"
	}
	return tree.PrintExpr(e)
}

// P4.1: what binds closer, and that operators of one level go on to the left.
func TestLevels(t *testing.T) {
	for text, want := range map[string]string{
		"a . b + 1 * c":                 "[[a.b]+[1*c]]",
		"a | b | c":                     "[[a|b]|c]",
		"a && b && c":                   "[[a&&b]&&c]",
		"a + b - c + d":                 "[[[a+b]-c]+d]",
		"a * b / c * d":                 "[[[a*b]/c]*d]",
		"a | b && c == d + e * f":       "[a|[b&&[c==[d+[e*f]]]]]",
		"a * b + c == d && e | f":       "[[[[[a*b]+c]==d]&&e]|f]",
		"a < b | c == d && e < f":       "[[a<b]|[[c==d]&&[e<f]]]",
		"a - b * c - d":                 "[[a-[b*c]]-d]",
		"- a * b":                       "[[-a]*b]",
		"! a == b":                      "[[!a]==b]",
		"- - ! * & & mut a . b":         "[-[-[![*[&[&mut [a.b]]]]]]]",
		"a - - b":                       "[a-[-b]]",
		"a * * b":                       "[a*[*b]]",
		"a * & mut b . c ( ) + d":       "[[a*[&mut [b.c()]]]+d]",
		"a . b . c ( d . e , - f ) . g": "[[[a.b].c([d.e],[-f])].g]",
		"( a + b ) * c":                 "[([a+b])*c]",
		"* ( a ) . b":                   "[*[(a).b]]",
		"( a == b ) == c":               "[([a==b])==c]",
	} {
		e, err := parse.Expr(text)
		if err != (api.Err{}) || grouped(e) != want {
			t.Errorf("%q: %s, %v, want %s", text, grouped(e), err, want)
		}
	}
}

// wrong is a wrong text, and what is told of it.
type wrong struct {
	text string
	want api.Err
}

var wrongHeads = []wrong{
	{"x", fails(api.Syntax, 1, 1)},
	{"struct S { } ;", fails(api.Syntax, 1, 14)},
	{"struct\n", fails(api.Syntax, 2, 1)},
	{"struct int { }", fails(api.Syntax, 1, 8)},
	{"struct S < > { }", fails(api.Syntax, 1, 12)},
	{"struct S < 'a , > { }", fails(api.Syntax, 1, 17)},
	{"struct S < T , 'a > { }", fails(api.Syntax, 1, 16)},
	{"struct S { x : int , }", fails(api.Syntax, 1, 22)},
	{"struct S { x : int y : int }", fails(api.Syntax, 1, 20)},
	{"struct S { x int }", fails(api.Syntax, 1, 14)},
	{"trait T < 'a > { }", fails(api.Syntax, 1, 9)},
	{"trait T { fn m ( ) ; }", fails(api.Syntax, 1, 18)},
	{"trait T { fn m ( x : int ) ; }", fails(api.Syntax, 1, 18)},
	{"trait T { fn m ( mut self ) ; }", fails(api.Syntax, 1, 18)},
	{"trait T { fn m ( & mut 'a self ) ; }", fails(api.Syntax, 1, 24)},
	{"trait T { fn m ( self , ) ; }", fails(api.Syntax, 1, 25)},
	{"trait T { fn m ( self x : int ) ; }", fails(api.Syntax, 1, 23)},
	{"trait T { fn m ( self ) { } }", fails(api.Syntax, 1, 25)},
	{"trait T { struct }", fails(api.Syntax, 1, 11)},
	{"trait T { fn m < U > ( self ) ; }", fails(api.Kind, 1, 22)},
	{"trait T { fn m < 'a , U > + ( self ) ; }", fails(api.Kind, 1, 27)},
	{"impl T for S { fn m < U >", fails(api.Kind, 1, 26)},
	{"trait T { fn m < U ( self ) ; }", fails(api.Syntax, 1, 20)},
	{"trait T { fn m < U , 'a > ( self ) ; }", fails(api.Syntax, 1, 22)},
	{"impl T for S < 'a > { }", fails(api.Syntax, 1, 14)},
	{"impl T for Box { }", fails(api.Syntax, 1, 12)},
	{"impl T for ( ) { }", fails(api.Syntax, 1, 12)},
	{"impl T for S { fn m ( self ) ; }", fails(api.Syntax, 1, 30)},
	{"fn f ( self ) { }", fails(api.Syntax, 1, 8)},
	{"fn f ( ) ;", fails(api.Syntax, 1, 10)},
	{"fn f ( ) -> { }", fails(api.Syntax, 1, 13)},
	{"fn f ( ) where { }", fails(api.Syntax, 1, 16)},
	{"fn f ( ) where T : A , { }", fails(api.Syntax, 1, 24)},
	{"fn f ( ) where T { }", fails(api.Syntax, 1, 18)},
	{"fn f ( ) where T : { }", fails(api.Syntax, 1, 20)},
	{"fn f ( ) where T : A + { }", fails(api.Syntax, 1, 24)},
	{"fn f ( ) where T : A + 'a + B { }", fails(api.Syntax, 1, 29)},
	{"fn f ( ) where T : 'a + B { }", fails(api.Syntax, 1, 25)},
	{"fn f ( ) where 'a : A { }", fails(api.Syntax, 1, 21)},
	{"fn f ( ) where 'a : 'b + A { }", fails(api.Syntax, 1, 26)},
	{"fn f ( ) where 'a : 'b -> int { }", fails(api.Syntax, 1, 24)},
}

var wrongBodies = []wrong{
	{"fn f ( ) {", fails(api.Syntax, 1, 11)},
	{"fn f ( ) { let ; }", fails(api.Syntax, 1, 16)},
	{"fn f ( ) { let self ; }", fails(api.Syntax, 1, 16)},
	{"fn f ( ) { let mut x ; }", fails(api.Syntax, 1, 16)},
	{"fn f ( ) { let x : ; }", fails(api.Syntax, 1, 20)},
	{"fn f ( ) { let x = ; }", fails(api.Syntax, 1, 20)},
	{"fn f ( ) { let x = y }", fails(api.Syntax, 1, 22)},
	{"fn f ( ) { let x = y = z ; }", fails(api.Syntax, 1, 22)},
	{"fn f ( ) { x = y = z ; }", fails(api.Syntax, 1, 18)},
	{"fn f ( ) { x }", fails(api.Syntax, 1, 14)},
	{"fn f ( ) { ; }", fails(api.Syntax, 1, 12)},
	{"fn f ( ) { if x y }", fails(api.Syntax, 1, 17)},
	{"fn f ( ) { if { } }", fails(api.Syntax, 1, 15)},
	{"fn f ( ) { if x { } else if y { } }", fails(api.Syntax, 1, 26)},
	{"fn f ( ) { else { } }", fails(api.Syntax, 1, 12)},
	{"fn f ( ) { while x ; }", fails(api.Syntax, 1, 20)},
	{"fn f ( ) { return return ; }", fails(api.Syntax, 1, 19)},
	{"fn f ( ) { abort x ; }", fails(api.Syntax, 1, 18)},
	{"fn f ( ) { } }", fails(api.Syntax, 1, 14)},
}

var wrongTokens = []wrong{
	{"x # y", fails(api.Syntax, 1, 3)},
	{"x " + strings.Repeat("y", api.MaxName+1), fails(api.Limit, 1, 3)},
	{"x 9223372036854775808", fails(api.Limit, 1, 3)},
	{strings.Repeat("x", api.MaxText+1), api.Err{Code: api.Limit}},
	{strings.Repeat("; ", api.MaxTokens+1), fails(api.Limit, 1, 2*api.MaxTokens+1)},
}

// P4.1: wrong programs, each told at its place.
func TestProgramErrors(t *testing.T) {
	for _, x := range slices.Concat(wrongHeads, wrongBodies, wrongTokens) {
		if e := programTold(t, x.text); e != x.want {
			t.Errorf("Program(%.60q): %v, want %v", x.text, e, x.want)
		}
	}
}

var wrongTypes = []wrong{
	{"", fails(api.Syntax, 1, 1)},
	{"int int", fails(api.Syntax, 1, 5)},
	{"'a", fails(api.Syntax, 1, 1)},
	{"self", fails(api.Syntax, 1, 1)},
	{"( int )", fails(api.Syntax, 1, 3)},
	{"Box", fails(api.Syntax, 1, 4)},
	{"Box < 'a >", fails(api.Syntax, 1, 7)},
	{"Box < S , S >", fails(api.Syntax, 1, 9)},
	{"Box < >", fails(api.Syntax, 1, 7)},
	{"S < >", fails(api.Syntax, 1, 5)},
	{"S < int , 'a >", fails(api.Syntax, 1, 11)},
	{"S < 'a , >", fails(api.Syntax, 1, 10)},
	{"S < int", fails(api.Syntax, 1, 8)},
	{"&& int", fails(api.Syntax, 1, 1)},
	{"& mut 'a int", fails(api.Syntax, 1, 7)},
	{"& 'a 'b int", fails(api.Syntax, 1, 6)},
	{"dyn int", fails(api.Syntax, 1, 5)},
	{"dyn T + int", fails(api.Syntax, 1, 9)},
	{"dyn T + 'a + 'b", fails(api.Syntax, 1, 12)},
	{"int #", fails(api.Syntax, 1, 5)},
}

var wrongExprs = []wrong{
	{"", fails(api.Syntax, 1, 1)},
	{"a b", fails(api.Syntax, 1, 3)},
	{"a = b", fails(api.Syntax, 1, 3)},
	{"a == b == c", fails(api.Syntax, 1, 8)},
	{"a < b < c", fails(api.Syntax, 1, 7)},
	{"a < b == c", fails(api.Syntax, 1, 7)},
	{"a > b", fails(api.Syntax, 1, 3)},
	{"a +", fails(api.Syntax, 1, 4)},
	{"a + + b", fails(api.Syntax, 1, 5)},
	{"&& a", fails(api.Syntax, 1, 1)},
	{"a & b", fails(api.Syntax, 1, 3)},
	{"a . 1", fails(api.Syntax, 1, 5)},
	{"a . self", fails(api.Syntax, 1, 5)},
	{"a . b ( c , )", fails(api.Syntax, 1, 13)},
	{"f ( , )", fails(api.Syntax, 1, 5)},
	{"f ( a", fails(api.Syntax, 1, 6)},
	{"self ( )", fails(api.Syntax, 1, 6)},
	{"( a )  ( )", fails(api.Syntax, 1, 8)},
	{"Box a", fails(api.Syntax, 1, 5)},
	{"Box ( )", fails(api.Syntax, 1, 7)},
	{"unbox ( a , b )", fails(api.Syntax, 1, 11)},
	{"new S ( )", fails(api.Syntax, 1, 7)},
	{"new S { a }", fails(api.Syntax, 1, 11)},
	{"new S { a : b , }", fails(api.Syntax, 1, 17)},
	{"new Box { }", fails(api.Syntax, 1, 5)},
	{"as T { }", fails(api.Syntax, 1, 6)},
	{"as T | x", fails(api.Syntax, 1, 9)},
	{"as T | x , | { }", fails(api.Syntax, 1, 12)},
	{"as T | x : int | { }", fails(api.Syntax, 1, 10)},
	{"as T | | a", fails(api.Syntax, 1, 10)},
	{"int", fails(api.Syntax, 1, 1)},
	{"'a", fails(api.Syntax, 1, 1)},
	{"mut a", fails(api.Syntax, 1, 1)},
	{"( ", fails(api.Syntax, 1, 3)},
	{"a 'A", fails(api.Syntax, 1, 3)},
}

// P4.1: wrong types and expressions, each told at its place.
func TestAloneErrors(t *testing.T) {
	for _, x := range wrongTypes {
		if e := typeTold(t, x.text); e != x.want {
			t.Errorf("Type(%q): %v, want %v", x.text, e, x.want)
		}
	}
	for _, x := range wrongExprs {
		if e := exprTold(t, x.text); e != x.want {
			t.Errorf("Expr(%q): %v, want %v", x.text, e, x.want)
		}
	}
}

// P4.1: the document's example.
func TestExample(t *testing.T) {
	e, err := parse.Expr("a . b + 1 * c")
	if err != (api.Err{}) || e.Kind != tree.EBin || e.Name != "+" || len(e.Args) != 2 || e.Args[0].Kind != tree.EField || e.Args[1].Kind != tree.EBin || e.Args[1].Name != "*" {
		t.Errorf("%+v, %v", e, err)
	}
}
