package lower_test

import (
	"testing"

	"chattel/heap"
	"chattel/lower"
	"chattel/mir"
)

// bodies are those of main with what they answer; nothing that they do is a fault, also where it is watched.
var bodies = []struct {
	text string
	want int64
}{
	// Values, operators: the left part's value is taken ahead of the right one.
	{"return 1 + 2 * 3 - 8 / 4 ;", 5}, {"return - ( 7 - 9 ) ;", 2}, {"return ( ( 4 ) ) ;", 4},
	{"let x = 1 ; return x + inc ( & mut x ) ;", 3}, {"let x = 1 ; return inc ( & mut x ) + x ;", 4}, {"let x = 1 ; let y = & mut x ; return * y + x ;", 2},
	{"let x = 1 ; return x * 100 + inc ( & mut x ) * 10 + x ;", 122}, {"let x = 1 ; let y = & x ; return * y + x ;", 2}, {"let x = 1 ; let y = & mut x ; return * y * 10 + inc ( y ) ;", 12},
	{"let x = 0 ; if ( 1 < 0 ) && ( inc ( & mut x ) == 1 ) { } if true | inc ( & mut x ) == 1 { } return x ;", 2},
	{"if ! ( true == false ) && ! false | false { return 3 ; } return 4 ;", 3}, {"let f = 0f3ff0000000000000 ; if f * f + f / f == - ( - f - f ) { return 1 ; } return 2 ;", 1}, {"if 0f3ff0000000000000 < 0f4000000000000000 { return 1 ; } return 2 ;", 1},
	{"if choose { return 1 ; } return 2 ;", 2}, {"let u = ( ) ; let v = none ( ) ; u = v ; return 1 ;", 1}, {"let b = true ; let c = false ; b = c ; if b { return 1 ; } return 2 ;", 2},
	// Arguments from left to right, fields as they are written.
	{"let x = 1 ; return three ( x , inc ( & mut x ) , x ) ;", 122}, {"let x = 1 ; return three ( x , inc ( & mut x ) , 4 ) ;", 124}, {"let x = 1 ; let y = & mut x ; return three ( * y , 2 , x ) ;", 121}, {"let x = 1 ; return three ( inc ( & mut x ) , x , inc ( & mut x ) ) ;", 223}, {"let x = 1 ; let y = & mut x ; return three ( * y , inc ( y ) , x ) ;", 122},
	{"let x = 1 ; let p = new P { b : inc ( & mut x ) , a : x } ; return p . a * 10 + p . b ;", 22}, {"let x = 1 ; let p = new P { b : x , a : inc ( & mut x ) } ; return p . a * 10 + p . b ;", 21},
	{"let x = 1 ; let y = & mut x ; let p = new P { b : * y , a : x } ; return p . a * 10 + p . b ;", 11}, {"let s = new S { b : Box ( 1 ) , n : 2 } ; let t = new S { n : s . n , b : s . b } ; return t . get ( ) ;", 3},
	{"let s = new S { b : Box ( 1 ) , n : 2 } ; let t = new S { n : * s . b , b : s . b } ; return t . n ;", 1}, {"let p = two ( 1 , 2 ) ; return p . a * 10 + p . b ;", 12},
	// Variables, places.
	{"let x = 1 ; let x = x + 1 ; { let x = 5 ; x = 6 ; } return x ;", 2}, {"let x : int ; if choose { x = 1 ; } else { x = 2 ; } return x ;", 2}, {"let x = 1 ; { let x = x + 1 ; { x = x + 1 ; } return x ; }", 3},
	{"let x = 1 ; let y = & mut x ; * y = 5 ; return x ;", 5}, {"let x = 5 ; let r = & x ; let q = & r ; return * * q + rd ( * q ) + q . show ( ) ;", 15}, {"let b = Box ( 3 ) ; * b = * b + 1 ; let r = & mut * b ; * r = * r * 2 ; return unbox ( b ) ;", 8},
	{"let b = Box ( Box ( 3 ) ) ; let c = unbox ( b ) ; return * c ;", 3}, {"let b = Box ( Box ( 3 ) ) ; * b = Box ( 4 ) ; * * b = * * b + 1 ; return * * b ;", 5}, {"let a = Box ( 1 ) ; let b = a ; a = Box ( 2 ) ; return * a * 10 + * b ;", 21},
	{"let s = new S { b : Box ( 7 ) , n : 2 } ; let b = s . b ; s . b = Box ( 3 ) ; return s . get ( ) + * b ;", 12}, {"let s = new S { b : Box ( 7 ) , n : 2 } ; let m = & mut s ; m . n = 3 ; * m . b = 4 ; return ( * m ) . n + * ( m . b ) ;", 7},
	{"let w = 3 ; let r = new W { w : & mut w } ; * r . w = 5 ; let q = & mut * r . w ; * q = * q + 1 ; return w ;", 6}, {"let p = two ( 1 , 2 ) ; let a = & mut p . a ; let b = & mut p . b ; * a = 5 ; * b = 6 ; return p . a * 10 + p . b ;", 56},
	{"let p = two ( Box ( 1 ) , Box ( 2 ) ) ; let q = p . a ; p . a = p . b ; p . b = q ; return * p . a * 10 + * p . b ;", 21}, {"let x = 3 ; let y = & mut x ; let z = & * y ; return * z + * y ;", 6},
	// Sets: the value first, then where it goes.
	{"let x = 1 ; * id ( & mut x ) = x + 9 ; return x ;", 10}, {"let x = 1 ; * id ( id ( & mut x ) ) = inc ( & mut x ) * 10 ; return x ;", 20}, {"let x = 1 ; x = inc ( & mut x ) ; return x ;", 2}, {"let x = 1 ; x = rd ( & x ) + 1 ; return x ;", 2},
	{"let x = 1 ; x = * & x + 1 ; return x ;", 2}, {"let x = 1 ; let y = & x ; x = * y ; return x ;", 1}, {"let x = 1 ; x = x + inc ( & mut x ) * 10 + x ; return x ;", 23}, {"let a = Box ( 1 ) ; a = same ( a ) ; return * a ;", 1},
	{"let x = 1 ; let y = 2 ; let r = & mut x ; r = & mut y ; * r = 5 ; return x * 10 + y ;", 15}, {"let p = two ( 1 , 2 ) ; p . a = p . b ; p . b = p . a + p . b ; return p . a * 10 + p . b ;", 24}, {"let x = 1 ; let y = 2 ; let r = & x ; let s = & y ; r = s ; return * r ;", 2},
	// Values that are lent, or have parts, live to the end of the statement.
	{"let r = & mut 5 ; return 0 ;", 0}, {"* & mut 5 = 6 ; 5 = 6 ; return 7 ;", 7}, {"return new S { b : Box ( 1 ) , n : 5 } . n ;", 5}, {"return * new S { b : Box ( 1 ) , n : 5 } . b ;", 1}, {"let b = ( new S { b : Box ( 1 ) , n : 5 } ) . b ; return * b ;", 1},
	{"return rd ( & 5 ) + rd ( & ( 1 + 2 ) ) + * & * & 1 ;", 9}, {"return rd ( rd2 ( & 5 ) ) ;", -1}, {"let x = 2 ; if * & x == 2 { x = 5 ; } return x ;", 5}, {"return * unbox ( Box ( & 4 ) ) ;", 4}, {"return three ( * & 1 , * & mut 2 , * Box ( 3 ) ) ;", 123},
	{"let n = 1 ; let r = & n ; if keep ( & mut r , & 5 ) { return * r ; } return 2 ;", 5}, {"let n = 1 ; let r = & n ; if ! keep ( & mut r , & 5 ) { } else { return * r ; } return 2 ;", 5}, {"let n = 1 ; let r = & n ; let m = 0 ; while keep ( & mut r , & ( m + 4 ) ) && ( m < 3 ) { m = m + * r ; } return m ;", 4},
	// Methods: where the object is, then the arguments, then the object.
	{"let s = new S { b : Box ( 1 ) , n : 2 } ; s . put ( s . get ( ) ) ; return s . get ( ) ;", 6}, {"let s = new S { n : 2 , b : Box ( 1 ) } ; let m = & mut s ; m . put ( m . get ( ) ) ; m . put ( m . n + 1 ) ; return s . n ;", 4},
	{"let s = new S { b : Box ( 7 ) , n : 2 } ; return s . n + s . eat ( ) ;", 9}, {"let x = 1 ; return x . add ( inc ( & mut x ) ) ;", 4}, {"let x = 1 ; return x . add ( x ) + ( & x ) . add ( x ) + Box ( x ) . add ( 3 ) ;", 8}, {"let x = 1 ; let y = & mut x ; return y . add ( inc ( & mut * y ) ) + y . add ( * y ) ;", 8},
	{"let s = new S { b : Box ( 1 ) , n : 2 } ; s . put ( s . n ) ; let b = Box ( s ) ; b . put ( b . n + 1 ) ; return ( * b ) . n + b . get ( ) ;", 9}, {"let s = new S { b : Box ( 1 ) , n : 5 } ; * s . poke ( ) = * s . peek ( ) + 1 ; return * s . poke ( ) ;", 6},
	{"let s = new S { b : Box ( 1 ) , n : 5 } ; let t = & s ; let r = t . peek ( ) ; t = & s ; return * r + t . n ;", 10}, {"return new S { b : Box ( 1 ) , n : 5 } . get ( ) ;", 6}, {"return ( & mut new S { b : Box ( 1 ) , n : 5 } ) . eat2 ( ) ;", -1}, {"( & mut new S { b : Box ( 1 ) , n : 5 } ) . put ( 3 ) ; return 1 ;", 1},
	{"let s = new S { b : Box ( 1 ) , n : 2 } ; let m = & mut s ; s . put ( m . n ) ; return s . get ( ) ;", 4}, {"let s = new S { b : Box ( 1 ) , n : 2 } ; let m = & mut s ; s . put ( * m . b ) ; return s . get ( ) ;", 2},
	{"return 4 . show ( ) + ( & & 5 ) . show ( ) ;", 9}, {"let p = two ( 1 , 2 ) ; return p . show ( ) + show ( & p ) ;", 24}, {"let p = two ( two ( 1 , 2 ) , two ( 3 , 4 ) ) ; return p . show ( ) ;", 154},
	// What becomes a pointer to dyn.
	{"let p = two ( 1 , 2 ) ; return lent ( & p ) + own ( Box ( p ) ) ;", 24}, {"return nest ( Box ( Box ( 4 ) ) ) + nest ( ( Box ( ( Box ( 5 ) ) ) ) ) ;", 9}, {"let x : Box < Box < dyn Show > > = Box ( Box ( 4 ) ) ; x = Box ( Box ( 5 ) ) ; return x . show ( ) ;", 5},
	{"let x : Box < Box < dyn Show > > = Box ( Box ( 4 ) ) ; * x = Box ( 6 ) ; return x . show ( ) ;", 6}, {"let y = 4 ; let x : Box < & dyn Show > = Box ( & y ) ; return x . show ( ) ;", 4}, {"let x : Box < dyn Show > = Box ( 4 ) ; x = Box ( new S { b : Box ( 1 ) , n : 5 } ) ; return own ( x ) ;", 5},
	{"let y = 4 ; let r = & mut y ; let x : & mut dyn Show = r ; return lent ( & * x ) ;", 4}, {"let y = 4 ; let r : & dyn Show = & y ; let q = r ; return lent ( q ) + lent ( r ) ;", 8}, {"let t = pair ( 1 , true , Box ( Box ( 4 ) ) ) ; return t . t + t . v . show ( ) ;", 5},
	{"let t = new Two { v : Box ( Box ( 4 ) ) , u : ( ) , t : 3 } ; t . v = Box ( Box ( 5 ) ) ; return t . t + t . v . show ( ) ;", 8}, {"let s = new S { b : Box ( 1 ) , n : 5 } ; return s . box ( Box ( Box ( 7 ) ) ) ;", 7}, {"let x : Box < Box < Box < dyn Show > > > = Box ( Box ( Box ( 4 ) ) ) ; return x . show ( ) ;", 4},
	{"let x : Box < Box < dyn Show > > = Box ( Box ( 4 ) ) ; let y = & mut x ; * same ( y ) = Box ( Box ( 8 ) ) ; return x . show ( ) ;", 8},
	// Ways.
	{"let x = 1 ; while x < 100 { x = x * 2 ; } return x ;", 128}, {"let x = 1 ; let n = 0 ; while x < 10 { let b = Box ( x ) ; n = n + * b ; x = x + 1 ; } return n ;", 45}, {"let x = 1 ; while inc ( & mut x ) < 10 { } return x ;", 10},
	{"let x = 1 ; while rd ( & x ) < 10 { if x == 5 { return x ; } x = x + 1 ; } return 0 ;", 5}, {"let x = 1 ; if rd ( & x ) == 1 { x = 5 ; } else { x = 6 ; } if x == 6 { x = 7 ; } return x ;", 5}, {"while true { return 3 ; } return 4 ;", 3}, {"while false { abort ; } return 4 ;", 4},
	{"let n = 0 ; let i = 0 ; while i < 5 { let j = 0 ; while j < i { n = n + rd ( & j ) ; j = j + 1 ; } i = i + 1 ; } return n ;", 10}, {"{ { return 1 ; } }", 1}, {"return 1 ; return 2 ;", 1}, {"if true { } else { abort ; } return 2 ;", 2},
	// Closures.
	{"let x = 1 ; let c = as Call | a | { return a + x ; } ; return c . call ( 5 ) + x ;", 7}, {"let x = 1 ; let c = as Mut | a | { x = x + a ; return x ; } ; c . set ( 5 ) ; c . set ( 6 ) ; return x ;", 12},
	{"let x = Box ( 1 ) ; let c = as Once | a | { let y = x ; return a + * y ; } ; return c . once ( 5 ) ;", 6}, {"let x = 1 ; let c = as Mut | a | { let d = as Mut | a | { x = x + a ; return x ; } ; return d . set ( a * 2 ) ; } ; c . set ( 5 ) ; return x ;", 11},
	{"let x = 5 ; let r = & mut x ; let c = as Mut | a | { * r = a ; return * r ; } ; c . set ( 3 ) ; * r = * r + 1 ; return x ;", 4}, {"let b : Box < dyn Call > = Box ( as Call | a | { return a ; } ) ; return b . call ( 3 ) ;", 3}, {"let x = 2 ; return call ( & as Call | a | { return a * x ; } ) ;", 14},
	{"let x = 2 ; return ( as Call | a | { return a * x ; } ) . call ( x ) ;", 4}, {"let s = new S { b : Box ( 1 ) , n : 5 } ; let c = as Once | a | { s . put ( a ) ; return s . eat ( ) ; } ; return c . once ( 4 ) ;", 4}, {"let x = 2 ; let c = as Call | a | { return a + x ; } ; return * c . x + c . call ( 1 ) ;", 5},
	{"let s = new S { b : Box ( 1 ) , n : 5 } ; let r = & s ; let c = as Call | x | { return r . get ( ) + x ; } ; return c . call ( s . n ) ;", 11}, {"let n = 0 ; let c = as Once | a | { let d = as Once | b | { return b + n ; } ; return d . once ( a ) ; } ; n . add ( 1 ) ; return c . once ( 4 ) ;", 4},
}

// P18.1: lowered bodies mean what their text says.
func TestMean(t *testing.T) {
	ended := 0
	for _, c := range bodies {
		text := lib + "fn main ( ) -> int { " + c.text + " }"
		if c.want < 0 {
			if _, e := read(t, text).pieces(); e.Code == 0 {
				t.Errorf("%s is lowered", c.text)
			}
			continue
		}
		l := all(t, text)
		for _, watch := range []bool{true, false} {
			r := run(t, l, l[len(l)-1].env, watch)
			if r.why != "" || r.value.Kind != heap.Int || int64(r.value.N) != c.want {
				t.Errorf("%s: %+v, want %d\n%s", c.text, r, c.want, mainText(l))
			}
		}
		ended++
	}
	if ended < 100 {
		t.Error(ended)
	}
}

func mainText(l []piece) string {
	for _, p := range l {
		if p.job.Name == "main" {
			return mir.Text(p.done.Body)
		}
	}
	return ""
}

// P18.1: ends that aren't ints: a function that answers unit returns, any other one aborts.
func TestEnds(t *testing.T) {
	for _, c := range []struct {
		text   string
		kind   int
		n      uint64
		why    string
		script []bool
	}{
		{"fn main ( ) { }", heap.Unit, 0, "", nil}, {"fn main ( ) -> ( ) { }", heap.Unit, 0, "", nil}, {"fn main ( ) { return ; }", heap.Unit, 0, "", nil}, {"fn main ( ) { return ( ) ; }", heap.Unit, 0, "", nil},
		{"fn main ( ) { if choose { return ; } abort ; }", heap.Unit, 0, "", []bool{true}}, {"fn main ( ) { if choose { return ; } abort ; }", 0, 0, "abort", []bool{false}},
		{"fn main ( ) -> int { }", 0, 0, "abort", nil}, {"fn main ( ) -> int { if choose { return 1 ; } }", 0, 0, "abort", nil}, {"fn main ( ) -> int { if choose { return 1 ; } }", heap.Int, 1, "", []bool{true}},
		{"fn main ( ) -> bool { return choose == choose ; }", heap.Bool, 0, "", []bool{true}}, {"fn main ( ) -> bool { return choose == choose ; }", heap.Bool, 1, "", []bool{true, true}}, {"fn main ( ) -> f64 { return 0f3ff0000000000000 ; }", heap.Float, 0x3ff0000000000000, "", nil},
		// What is wrong only with what is missing is for others to tell.
		{"fn main ( ) -> int { let x : int ; x ; return 1 ; }", 0, 0, "fault 3", nil}, {"fn main ( ) -> int { let b = Box ( 1 ) ; b ; return * b ; }", 0, 0, "fault 3", nil}, {"fn main ( ) { let b = Box ( 1 ) ; ( b ) ; b ; }", 0, 0, "fault 3", nil}, {"fn main ( ) { let b = Box ( 1 ) ; b ; b = Box ( 2 ) ; }", heap.Unit, 0, "", nil},
		{"fn main ( ) -> int { return 9223372036854775807 + 1 ; }", 0, 0, "over", nil}, {"fn main ( ) -> int { while true { } }", 0, 0, "fuel", nil}, {"fn main ( ) -> int { return main ( ) ; }", 0, 0, "deep", nil},
		{"fn main ( ) -> int { let n = 0 ; while choose { n = n + 1 ; } return n ; }", heap.Int, 3, "", []bool{true, true, true}}, {"fn main ( ) -> bool { return choose && ! choose ; }", heap.Bool, 1, "", []bool{true, false}},
	} {
		l := all(t, c.text)
		r := run(t, l, l[0].env, true, c.script...)
		if r.why != c.why || r.value.Kind != c.kind || r.value.N != c.n {
			t.Errorf("%s: %+v", c.text, r)
		}
	}
}

// P18.1: functions of any types and lifetimes, closures in them and in methods, what they caught of self.
func TestPrograms(t *testing.T) {
	for _, c := range []struct {
		text string
		want int64
	}{
		{"fn g < T > ( x : T , y : & T ) -> int where T : Show { let c = as Call | a | { return y . show ( ) + x . show ( ) + a ; } ; return c . call ( 1 ) ; } fn main ( ) -> int { return g ( 3 , & 4 ) + g ( two ( 1 , 2 ) , & two ( 3 , 4 ) ) ; }", 55},
		{"struct C { n : int } impl Mut for C { fn set ( & mut self , a : int ) -> int { let c = as Mut | b | { self . n = self . n + b ; return self . n ; } ; c . set ( a ) ; return c . set ( a ) ; } } fn main ( ) -> int { let c = new C { n : 1 } ; c . set ( 2 ) ; return c . n ; }", 5},
		{"struct C { b : Box < int > } impl Once for C { fn once ( self , a : int ) -> int { let c = as Once | b | { let s = self ; return * s . b + b ; } ; return c . once ( a ) ; } } fn main ( ) -> int { return new C { b : Box ( 4 ) } . once ( 2 ) ; }", 6},
		{"fn fold < F > ( f : F , n : int ) -> int where F : Mut { let i = 0 ; let last = 0 ; while i < n { last = f . set ( i ) ; i = i + 1 ; } return last ; } fn main ( ) -> int { let sum = 0 ; let r = fold ( as Mut | a | { sum = sum + a ; return sum ; } , 5 ) ; return r * 100 + sum ; }", 1010},
		{"fn fib ( n : int ) -> int { if n < 2 { return n ; } return fib ( n - 1 ) + fib ( n - 2 ) ; } fn main ( ) -> int { return fib ( 12 ) ; }", 144},
		{"struct L { v : int , next : Box < dyn Show > } impl Show for L { fn show ( & self ) -> int { return self . v + self . next . show ( ) ; } } fn main ( ) -> int { let l : Box < dyn Show > = Box ( 0 ) ; let i = 1 ; while i < 5 { l = Box ( new L { v : i , next : l } ) ; i = i + 1 ; } return l . show ( ) ; }", 10},
		{"fn apply ( f : Box < dyn Call > , n : int ) -> int { return f . call ( f . call ( n ) ) ; } fn main ( ) -> int { let x = 3 ; let f = as Call | a | { return a * x ; } ; let r = & f ; return r . call ( 1 ) + apply ( Box ( f ) , 2 ) ; }", 21},
		{"fn last < 'a , T > ( p : & 'a P < T > ) -> & 'a T { return & p . b ; } fn main ( ) -> int { let p = two ( Box ( 1 ) , Box ( 2 ) ) ; return * * last ( & p ) + last ( & p ) . show ( ) ; }", 4},
		{"fn main ( ) -> int { let n = 1 ; let c = as Mut | a | { let d = as Mut | b | { let e = as Mut | c | { n = n * 10 + c ; return n ; } ; e . set ( b ) ; return e . set ( b + 1 ) ; } ; return d . set ( a ) ; } ; return c . set ( 2 ) ; }", 123},
		{"fn main ( ) -> int { let p = two ( 1 , 2 ) ; let c = as Mut | a | { p . a = p . b ; p = two ( a , p . a ) ; return p . show ( ) ; } ; return c . set ( 4 ) * 100 + c . set ( 5 ) ; }", 4252},
	} {
		l := all(t, lib+c.text)
		for _, watch := range []bool{true, false} {
			if r := run(t, l, l[0].env, watch); r.why != "" || int64(r.value.N) != c.want {
				t.Errorf("%s: %+v, want %d", c.text, r, c.want)
			}
		}
	}
}

// P18.1: the chapter's example.
func TestExample(t *testing.T) {
	w := read(t, "fn f ( x : int ) -> int { return x + 1 ; }")
	d, e := lower.Lower(w.table, w.env, lower.Jobs(w.table, w.env)[0])
	if e.Code != 0 || mir.Check(d.Body) != -1 || d.Structs != nil || d.Impls != nil || d.Jobs != nil {
		t.Errorf("%+v %v", d, e)
	}
}
