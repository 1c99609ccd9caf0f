package lower_test

import (
	"reflect"
	"testing"

	"chattel/api"
	"chattel/lower"
	"chattel/names"
	"chattel/sigs"
	"chattel/tree"
)

// wrong is what is wrong with bodies of "fn g < T , 'a > ( r : & 'a S , t : T , b : Box < S > , d : & mut dyn Show ) -> int", at #.
var wrong = []struct {
	text string
	code api.Errno
}{
	// Variables, fields, pointers.
	{"return #x ;", api.Unknown}, {"#x = 1 ;", api.Unknown}, {"& #x ;", api.Unknown}, {"{ let x = 1 ; } #x ;", api.Unknown}, {"let x = #x ;", api.Unknown}, {"if choose { let x = 1 ; } else { #x ; }", api.Unknown}, {"while choose { let x = 1 ; } #x ;", api.Unknown},
	{"#main ;", api.Unknown}, {"#self ;", api.Unknown}, {"#x . n ;", api.Unknown}, {"r #. x ;", api.Unknown}, {"t #. n ;", api.Unknown}, {"r . n #. n ;", api.Unknown}, {"b #. x . y ;", api.Unknown}, {"1 #. n ;", api.Unknown}, {"d #. n ;", api.Unknown},
	{"#* 1 ;", api.Kind}, {"#* t ;", api.Kind}, {"#* r . n ;", api.Kind}, {"#* * r ;", api.Kind}, {"( #* ( 1 ) ) = 2 ;", api.Kind}, {"& mut #* 1 ;", api.Kind}, {"#* none ( ) ;", api.Kind},
	// What is moved lies behind a pointer; a dyn isn't used.
	{"#* r ;", api.Moved}, {"r #. b ;", api.Moved}, {"b #. b ;", api.Moved}, {"#* b ;", api.Moved}, {"let x = #* b ;", api.Moved}, {"drop ( r #. b ) ;", api.Moved}, {"Box ( ( #* r ) ) ;", api.Moved}, {"unbox ( r #. b ) ;", api.Moved},
	{"let x = & mut b ; #* x ;", api.Moved}, {"let x = Box ( & mut b ) ; #* x ;", api.Moved}, {"r #. eat ( ) ;", api.Moved}, {"b #. eat ( ) ;", api.Moved}, {"( b ) #. eat ( ) ;", api.Moved},
	{"#* d ;", api.Kind}, {"let x = #* d ;", api.Kind}, {"drop ( #* d ) ;", api.Kind}, {"Box ( #* d ) ;", api.Kind}, {"let x : Box < dyn Show > = Box ( 1 ) ; #* x ;", api.Kind}, {"let x : Box < dyn Show > = Box ( 1 ) ; #unbox ( x ) ;", api.Kind}, {"let x : Box < dyn Once > = Box ( as Once | a | { } ) ; x #. once ( 1 ) ;", api.Kind},
	{"if #* d { }", api.Kind}, {"return #* d ;", api.Kind}, {"#* d + 1 ;", api.Kind},
	// What may not be written.
	{"#& mut * r ;", api.Fixed}, {"#& mut r . n ;", api.Fixed}, {"#& mut * * & b ;", api.Fixed}, {"#& mut ( * & 1 ) ;", api.Fixed}, {"#& mut * same ( r ) ;", api.Fixed}, {"r #. put ( 1 ) ;", api.Fixed}, {"( & b ) #. put ( 1 ) ;", api.Fixed}, {"r #. poke ( ) ;", api.Fixed},
	{"#r . n = 1 ;", api.Fixed}, {"#* r = new S { b : Box ( 1 ) , n : 1 } ;", api.Fixed}, {"#* & 1 = 2 ;", api.Fixed}, {"#* r . b = 1 ;", api.Fixed}, {"let x = & b ; #x . n = 1 ;", api.Fixed}, {"let x = & mut r ; #( * x ) . n = 1 ;", api.Fixed},
	// Boxes.
	{"#unbox ( 1 ) ;", api.Kind}, {"#unbox ( r ) ;", api.Kind}, {"#unbox ( unbox ( b ) ) ;", api.Kind}, {"unbox ( #x ) ;", api.Unknown}, {"Box ( #x ) ;", api.Unknown}, {"#unbox ( & b ) ;", api.Kind},
	// Operators.
	{"1 #+ true ;", api.Kind}, {"1 #+ 0f3ff0000000000000 ;", api.Kind}, {"true #* true ;", api.Kind}, {"( ) #+ ( ) ;", api.Kind}, {"t #+ t ;", api.Kind}, {"b #+ 1 ;", api.Kind}, {"1 #- ( ) ;", api.Kind}, {"r #/ r ;", api.Kind}, {"true #< false ;", api.Kind}, {"( ) #== ( ) ;", api.Kind}, {"r #== r ;", api.Kind},
	{"1 #== true ;", api.Kind}, {"1 #< true ;", api.Kind}, {"1 #&& true ;", api.Kind}, {"true #&& 1 ;", api.Kind}, {"1 #| 1 ;", api.Kind}, {"#! 1 ;", api.Kind}, {"#- true ;", api.Kind}, {"#- ( ) ;", api.Kind}, {"#- & 1 ;", api.Kind}, {"1 + #x ;", api.Unknown}, {"#x + y ;", api.Unknown}, {"1 #+ & 1 ;", api.Kind}, {"- #! 1 ;", api.Kind},
	// Structs.
	{"#new X { } ;", api.Unknown}, {"#new T { } ;", api.Unknown}, {"#new Show { } ;", api.Unknown}, {"#new S { } ;", api.Unknown}, {"#new S { n : 1 } ;", api.Unknown}, {"#new S { n : 1 , x : 2 } ;", api.Unknown}, {"#new S { n : 1 , b : Box ( 1 ) , x : 2 } ;", api.Unknown}, {"#new None { x : 1 } ;", api.Unknown},
	{"#new S { n : 1 , b : Box ( 1 ) , n : 2 } ;", api.Twice}, {"#new S { n : 1 , n : 2 } ;", api.Unknown}, {"#new S { n : 1 , n : 2 , x : 3 , b : Box ( 1 ) } ;", api.Unknown}, {"#new S { n : true , b : Box ( 1 ) } ;", api.Kind}, {"#new S { b : 1 , n : 1 } ;", api.Kind}, {"#new S { b : Box ( true ) , n : 1 } ;", api.Kind}, {"new S { b : Box ( 1 ) , n : #x } ;", api.Unknown},
	{"#new Only { } ;", api.Kind}, {"#new P { a : 1 , b : true } ;", api.Kind}, {"#new P { a : Box ( 1 ) , b : & 1 } ;", api.Kind}, {"#new P { a : r , b : & b } ;", api.Kind}, {"#new R { r : & mut 1 , n : 1 } ;", api.Kind}, {"#new R { r : & true , n : 1 } ;", api.Kind}, {"#new Two { t : 1 , u : 1 , v : Box ( 1 ) } ;", api.Kind},
	{"#new P { a : new P { a : 1 , b : 2 } , b : new P { a : true , b : false } } ;", api.Kind}, {"#new Two { t : 1 , u : 1 , v : Box ( Box ( true ) ) } ;", api.Kind},
	// Calls.
	{"#f ( ) ;", api.Unknown}, {"#f ( x ) ;", api.Unknown}, {"#S ( ) ;", api.Unknown}, {"#t ( 1 ) ;", api.Unknown}, {"#show2 ( 1 ) ;", api.Unknown}, {"#none ( 1 ) ;", api.Kind}, {"#rd ( ) ;", api.Kind}, {"#three ( 1 , 2 ) ;", api.Kind}, {"#three ( 1 , 2 , 3 , 4 ) ;", api.Kind}, {"three ( 1 , #x , 3 ) ;", api.Unknown},
	{"#rd ( 1 ) ;", api.Kind}, {"#rd ( & true ) ;", api.Kind}, {"#rd ( & mut 1 ) ;", api.Kind}, {"#inc ( & 1 ) ;", api.Kind}, {"#three ( 1 , true , 3 ) ;", api.Kind}, {"#two ( 1 , true ) ;", api.Kind}, {"#show ( 1 ) ;", api.Kind}, {"#show ( & mut 1 ) ;", api.Kind}, {"#show ( & * d ) ;", api.Kind}, {"#own ( 1 ) ;", api.Kind}, {"#nest ( Box ( 1 ) ) ;", api.Kind},
	{"#show ( & true ) ;", api.Trait}, {"#show ( & t ) ;", api.Trait}, {"#show ( & two ( true , true ) ) ;", api.Trait}, {"#show ( & & 1 ) ;", api.Trait}, {"#show ( & b ) ;", api.Trait}, {"#lent ( & true ) ;", api.Kind}, {"#lent ( & mut 1 ) ;", api.Kind}, {"#own ( Box ( t ) ) ;", api.Kind}, {"#nest ( Box ( Box ( t ) ) ) ;", api.Kind},
	// Methods.
	{"r #. none ( ) ;", api.Unknown}, {"t #. show ( ) ;", api.Unknown}, {"true #. show ( ) ;", api.Unknown}, {"d #. get ( ) ;", api.Unknown}, {"1 #. both ( ) ;", api.Trait}, {"( & Box ( 1 ) ) #. both ( ) ;", api.Trait}, {"1 #. both ( x ) ;", api.Trait}, {"#x . show ( ) ;", api.Unknown},
	{"b #. put ( ) ;", api.Kind}, {"b #. put ( 1 , 2 ) ;", api.Kind}, {"b #. put ( true ) ;", api.Kind}, {"b #. get ( 1 ) ;", api.Kind}, {"b . put ( #x ) ;", api.Unknown}, {"r . put ( #x ) ;", api.Unknown}, {"r #. put ( true ) ;", api.Kind}, {"b #. box ( Box ( 1 ) ) ;", api.Kind}, {"r #. put ( ) ;", api.Kind},
	// Closures.
	{"#as X | | { } ;", api.Unknown}, {"#as S | | { } ;", api.Unknown}, {"#as T | | { } ;", api.Unknown}, {"#as Get | a | { } ;", api.Kind}, {"#as Peek | | { } ;", api.Kind}, {"#as Call | | { } ;", api.Kind}, {"#as Call | a , b | { } ;", api.Kind}, {"#as Show | a | { } ;", api.Kind}, {"#as Zip | a , a | { } ;", api.Twice},
	{"#as Zip | a , b , a | { } ;", api.Kind},
	// Statements.
	{"#let x ;", api.Kind}, {"let x : #X ;", api.Unknown}, {"let x : #X = y ;", api.Unknown}, {"let x : & #X ;", api.Unknown}, {"let x : #P < int , int > ;", api.Kind}, {"let x : #& 'b int ;", api.Life}, {"let x : #dyn Show ;", api.Kind}, {"let x : & #dyn X ;", api.Unknown}, {"let x : #R < 'b > = y ;", api.Life},
	{"#let x : int = true ;", api.Kind}, {"#let x : & int = & mut 1 ;", api.Kind}, {"#let x : Box < dyn Show > = Box ( true ) ;", api.Kind}, {"#let x : Box < Box < dyn Show > > = Box ( Box ( true ) ) ;", api.Kind}, {"#let x : Box < dyn Show > = 1 ;", api.Kind}, {"let x : int = #y ;", api.Unknown}, {"#let x : T = 1 ;", api.Kind}, {"#let x : P < int > = two ( t , t ) ;", api.Kind},
	{"#r = 1 ;", api.Kind}, {"#r = & mut * b ;", api.Kind}, {"#r . n = true ;", api.Kind}, {"#* d = 1 ;", api.Kind}, {"let x : & dyn Show = & 1 ; #* x = 1 ;", api.Kind}, {"* d = #x ;", api.Unknown}, {"x = #y ;", api.Unknown}, {"#x = 1 + 1 ;", api.Unknown}, {"r #. x = 1 ;", api.Unknown}, {"#* 1 = 1 ;", api.Kind}, {"#t = 1 ;", api.Kind},
	{"#5 = true ;", api.Kind}, {"#* same ( & mut b ) = 1 ;", api.Kind}, {"#* same ( r ) = 1 ;", api.Kind}, {"* same ( #x ) = 1 ;", api.Unknown}, {"* same ( x ) = #y ;", api.Unknown},
	{"#if 1 { }", api.Kind}, {"#if ( ) { x ; }", api.Kind}, {"if #x { }", api.Unknown}, {"#while & true { }", api.Kind}, {"while #x { }", api.Unknown}, {"if true { #x ; }", api.Unknown}, {"if true { } else { #x ; }", api.Unknown}, {"while true { #x ; }", api.Unknown}, {"{ #x ; }", api.Unknown},
	{"#return ;", api.Kind}, {"#return true ;", api.Kind}, {"#return ( ) ;", api.Kind}, {"#return & 1 ;", api.Kind}, {"return #x ;", api.Unknown}, {"abort ; #x ;", api.Unknown}, {"return 1 ; #x ;", api.Unknown},
	// The first of several.
	{"three ( #x , y , z ) ;", api.Unknown}, {"1 ; #x ; y ;", api.Unknown}, {"let x = 1 #+ true ; y ;", api.Kind}, {"1 #+ true + x ;", api.Kind}, {"( #x ) . y . z ;", api.Unknown}, {"#f ( 1 + true ) ;", api.Unknown}, {"( 1 #+ true ) . put ( x ) ;", api.Kind},
}

const wrongHead = "trait Zip { fn zip ( & self , a : int , b : int ) ; }\nfn g < 'a , T > ( r : & 'a S , t : T , b : Box < S > , d : & mut dyn Show ) -> int { "

// P18.1: the first that is wrong, and where.
func TestErrors(t *testing.T) {
	for _, c := range wrong {
		text, at := marked(lib + wrongHead + c.text + " }")
		w := read(t, text)
		jobs := lower.Jobs(w.table, w.env)
		d, e := lower.Lower(w.table, w.env, jobs[len(jobs)-1])
		if want := (api.Err{Code: c.code, At: at}); e != want || !reflect.DeepEqual(d, lower.Done{}) {
			t.Errorf("%s: %v, want %v", c.text, e, want)
		}
	}
}

// P18.1: bodies that are nearly wrong.
func TestRight(t *testing.T) {
	for _, s := range []string{
		"let x : int ; x = 1 ;", "let x : & 'a int ; let y : & 'static T ; let z : R ; let w : R < 'a > ;", "& mut r ;", "let x = & mut r ; * x = & * b ;", "new None { } ;", "new P { a : r , b : & * b } ;", "show ( & * b ) ;", "b . box ( Box ( Box ( 1 ) ) ) ;",
		"as Zip | a , b | { } ;", "as Call | b | { } ;", "as Call | a | { nowhere ; } ;", "let x : T = t ;", "d . show ( ) ;", "lent ( & * d ) ;", "let x = r . n ; let y = * r . b ;", "let x = & r . b ; let y = & mut b . b ;", "* b = new S { b : Box ( 1 ) , n : 2 } ;", "let x = unbox ( b ) . b ;",
		"let x : Box < dyn Show > = Box ( * & 1 ) ;", "let x : & mut dyn Show = d ;", "two ( r , & * b ) ;", "two ( t , t ) ;", "drop ( d ) ;", "same ( r ) . get ( ) ;", "b . n = 1 ; * b . b = 2 ;", "( ( ( b ) ) . n ) = 1 ;", "1 = 2 ;", "none ( ) = ( ) ;", "b . put ( b . n ) ;", "if r . n == 1 { return 1 ; }",
		"let r = 1 ; let r = true ; if r { }", "let none = 1 ; none ( ) ; none + 1 ;", "let S = new S { n : 1 , b : Box ( 2 ) } ; S . n = 2 ;", "return 1 ; let x = 1 ; return x ;", "let x : ( ) = ( ) ; let y = ( ) ; drop ( x ) ; drop ( y ) ;",
	} {
		w := read(t, lib+wrongHead+s+" }")
		l, e := w.pieces()
		if e != (api.Err{}) && s != "as Call | a | { nowhere ; } ;" {
			t.Errorf("%s: %v", s, e)
			continue
		}
		for _, p := range l {
			if u := untyped(p); u != "" {
				t.Errorf("%s: %s", s, u)
			}
		}
	}
}

// P18.1: Nil, at At, without a table or heads.
func TestNil(t *testing.T) {
	w := read(t, "fn f ( ) { }")
	j := lower.Job{Name: "f", At: api.Pos{Line: 3, Col: 4}}
	want := api.Err{Code: api.Nil, At: j.At}
	for _, c := range []struct {
		t   *names.Table
		env *sigs.Env
	}{{nil, nil}, {w.table, nil}, {nil, w.env}} {
		if d, e := lower.Lower(c.t, c.env, j); e != want || !reflect.DeepEqual(d, lower.Done{}) {
			t.Error(d, e)
		}
		if l := lower.Jobs(c.t, c.env); len(l) > 0 {
			t.Error(l)
		}
	}
	if d, e := lower.Lower(w.table, w.env, lower.Job{}); e != (api.Err{Code: 0}) || d.Body == nil || len(d.Body.Locals) != 1 {
		t.Error(d, e)
	}
}

// P1: trees that no text is, and jobs that no program has: an error, or a body that may be, and no panic.
func TestOdd(t *testing.T) {
	w := read(t, lib)
	v := func(s string) tree.Expr { return tree.Expr{Kind: tree.EVar, Name: s} }
	one := tree.Expr{Kind: tree.EInt, Val: 1}
	var exprs []tree.Expr
	for kind := -1; kind < 21; kind++ {
		for n := range 4 {
			for _, arg := range []tree.Expr{one, v("x"), v("b"), {Kind: tree.EStruct, Name: "None"}, {}} {
				e := tree.Expr{Kind: kind, Name: []string{"x", "n", "S", "Call", "+"}[(kind+n+1)%5]}
				for range n {
					e.Args = append(e.Args, arg)
				}
				exprs = append(exprs, e, tree.Expr{Kind: tree.EMethod, Name: "put", Args: []tree.Expr{e, one}})
				e.Names = []string{"n", "b", "n"}[:n]
				exprs = append(exprs, e)
			}
		}
	}
	sig, _ := w.env.Fn("three")
	for kind := -1; kind < 10; kind++ {
		for _, e := range exprs {
			for _, s := range []tree.Stmt{{Kind: kind, E: []tree.Expr{e}}, {Kind: kind, Place: []tree.Expr{e}, E: []tree.Expr{e, one}, Name: "y", Type: tree.Type{Kind: kind}}, {Kind: kind}, {Kind: kind, Place: []tree.Expr{e}}, {Kind: kind, Else: []tree.Stmt{{Kind: kind, E: []tree.Expr{e}}}, Body: []tree.Stmt{{}}}} {
				for _, j := range []lower.Job{
					{Name: "f", Body: []tree.Stmt{s}, Names: []string{"x", "b", "c", "d"}, Sig: sig.Sig},
					{Name: "f", Body: []tree.Stmt{s}, Names: []string{"x"}, Caught: []lower.Caught{{Name: "b"}, {Name: "c", Path: []int{3, -1}}}},
					{Name: "f", Body: []tree.Stmt{s}, Caught: []lower.Caught{{Name: "b"}, {Name: "c", Path: []int{-7, -1}}}, Sig: sigs.Sig{Lifes: -4, Params: []T{{Kind: 5, Name: "S"}, {}}, Types: []string{"A", "A"}}},
				} {
					d, e := lower.Lower(w.table, w.env, j)
					if (e.Code == 0) != (d.Body != nil) {
						t.Fatalf("%+v: %v", s, e)
					}
				}
			}
		}
	}
}
