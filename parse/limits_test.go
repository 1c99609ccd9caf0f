package parse_test

import (
	"slices"
	"strings"
	"testing"

	"chattel/api"
	"chattel/parse"
	"chattel/tree"
)

// many: a text n times, with another one between.
func many(n int, s, between string) string {
	return strings.Join(slices.Repeat([]string{s}, n), between)
}

// behind: an error at what stands behind a text, in its line.
func behind(code api.Errno, s string) api.Err { return fails(code, 1, len(s)+1) }

// limited is a list of which there may be so many: what stands ahead of it, one of it, what stands between each two, and what ends it.
type limited struct {
	most                     int
	ahead, one, between, end string
}

// P4.1: each list: so many, and not one more, whatever it begins with; and with one less what isn't there is a Syntax.
func checkLimits(t *testing.T, lists []limited, read func(*testing.T, string) api.Err) {
	t.Helper()
	for _, x := range lists {
		full := x.ahead + many(x.most, x.one, x.between)
		if e := read(t, full+" "+x.end); e != (api.Err{}) {
			t.Errorf("%q, %d of them: %v", x.ahead, x.most, e)
		}
		more := full + x.between
		for _, next := range []string{x.one, "", "#", ",", "}", ")", "|", "=", "9"} {
			want := behind(api.Limit, more)
			if next == "#" {
				want = behind(api.Syntax, more) // layer 1's errors are told ahead of all
			}
			if x.between == " " && next == x.end {
				want = api.Err{} // without a comma this isn't one more
			}
			if e := read(t, more+next); e != want {
				t.Errorf("%q, %d of them and %q: %v, want %v", x.ahead, x.most, next, e, want)
			}
		}
		less := x.ahead + many(x.most-1, x.one, x.between) + x.between
		if e := read(t, less+"="); e != behind(api.Syntax, less) {
			t.Errorf("%q, %d of them and a =: %v", x.ahead, x.most-1, e)
		}
	}
}

// P4.1: the limits of items, of what they have, and of what stands in these.
func TestLimits(t *testing.T) {
	checkLimits(t, []limited{
		{api.MaxItems, "", "struct S { }", " ", ""},
		{api.MaxItems, "", "fn f ( ) { }", " ", ""},
		{api.MaxFields, "struct S { ", "x : int", " , ", "}"},
		{api.MaxFields, "trait T { ", "fn m ( self ) ;", " ", "}"},
		{api.MaxFields, "impl T for S { ", "fn m ( self ) { }", " ", "}"},
		{api.MaxParams, "struct S < ", "'a", " , ", "> { }"},
		{api.MaxParams, "struct S < ", "T", " , ", "> { }"},
		{api.MaxParams, "fn f < ", "T", " , ", "> ( ) { }"},
		{api.MaxParams, "fn f ( ", "x : int", " , ", ") { }"},
		{api.MaxParams, "trait T { fn m < ", "'a", " , ", "> ( self ) ; }"},
		{api.MaxParams, "trait T { fn m ( self , ", "x : int", " , ", ") ; }"},
		{api.MaxParams, "impl T for S { fn m ( & mut self , ", "x : int", " , ", ") { } }"},
		{16, "fn f ( ) where ", "T : A", " , ", "{ }"},
		{16, "fn f ( ) where ", "'a : 'b", " , ", "{ }"},
		{16, "impl T for S where ", "T : A", " , ", "{ }"},
		{16, "trait T { fn m ( self ) where ", "T : A", " , ", "; }"},
		{api.MaxParams, "fn f ( ) where T : ", "A", " + ", "{ }"},
		{api.MaxParams, "fn f ( ) where T : ", "'a", " + ", "{ }"},
		{api.MaxParams, "fn f ( ) where 'a : ", "'b", " + ", "{ }"},
		{api.MaxParams, "fn f ( x : S < ", "int", " , ", "> ) { }"},
	}, programTold)
}

// P4.1: the limits of what stands in types and expressions alone.
func TestLimitsAlone(t *testing.T) {
	checkLimits(t, []limited{
		{api.MaxParams, "S < ", "'a", " , ", ">"},
		{api.MaxParams, "S < ", "int", " , ", ">"},
		{api.MaxParams, "Box < S < ", "int", " , ", "> >"},
	}, typeTold)
	checkLimits(t, []limited{
		{api.MaxParams, "f ( ", "1", " , ", ")"},
		{api.MaxParams, "a . m ( ", "1", " , ", ")"},
		{api.MaxFields, "new S { ", "x : 1", " , ", "}"},
		{api.MaxParams, "as T | ", "x", " , ", "| { }"},
		{api.MaxParams, "as T | | { let x : S < ", "int", " , ", "> ; }"},
	}, exprTold)
}

// P4.1: lifetimes and others that stand in one list count together.
func TestLimitsTogether(t *testing.T) {
	lifes := many(3, "'a", " , ") + " , "
	for _, x := range []struct{ ahead, list, between, behind string }{
		{"fn f < ", lifes + many(5, "T", " , "), " , ", " > ( ) { }"},
		{"fn f ( x : S < ", lifes + many(5, "int", " , "), " , ", " > ) { }"},
		{"fn f ( ) where T : ", many(5, "A", " + ") + " + " + many(3, "'a", " + "), " + ", " { }"},
	} {
		if e := programTold(t, x.ahead+x.list+x.behind); e != (api.Err{}) {
			t.Errorf("%q: %v", x.list, e)
		}
		more := x.ahead + x.list + x.between
		if e := programTold(t, more+"'b"+x.behind); e != behind(api.Limit, more) {
			t.Errorf("%q: %v", more, e)
		}
	}
}

// P4.1: what has no limit but those of texts.
func TestUnlimited(t *testing.T) {
	for _, s := range []string{
		"fn f ( ) { " + many(1000, "abort ;", " ") + " }",
		"fn f ( ) { x = " + many(1000, "a", " + ") + " ; }",
		"fn f ( ) { a" + many(1000, " . b ( )", "") + " ; }",
		"fn f ( ) { f ( " + many(8, "f ( "+many(8, "1", " , ")+" )", " , ") + " ) ; }",
	} {
		if e := programTold(t, s); e != (api.Err{}) {
			t.Errorf("%.40q: %v", s, e)
		}
	}
}

// deep: a text that stands n times in itself.
func deep(n int, ahead, inner, behind string) string {
	return strings.Repeat(ahead, n) + inner + strings.Repeat(behind, n)
}

// P4.1: types, blocks and unaries stand in 39 others at most, all together; else a Limit, at their first token, ahead of a Syntax there.
func TestDepth(t *testing.T) {
	const most = api.MaxDepth
	tests := []struct {
		read                 func(*testing.T, string) api.Err
		n                    int // how often ahead may stand ahead of inner
		ahead, inner, behind string
	}{
		{typeTold, most - 1, "& ", "int", ""},
		{typeTold, most - 1, "& 'a mut ", "int", ""},
		{typeTold, most - 1, "Box < ", "( )", " >"},
		{typeTold, most - 1, "S < 'a , ", "dyn T", " , int >"},
		{exprTold, most - 1, "- ", "x", ""},
		{exprTold, most - 1, "& mut ", "7", ""},
		{exprTold, most - 1, "* ", "x . f", ""},
		{exprTold, most - 1, "( ", "( )", " )"},
		{exprTold, most - 1, "( ", "x", " + a )"},
		{exprTold, most - 1, "f ( ", "x", " , 1 )"},
		{exprTold, most - 1, "x . f ( ", "x", " )"},
		{exprTold, most - 1, "new S { x : ", "x", " }"},
		{exprTold, most - 1, "Box ( ", "x", " )"},
		{exprTold, most - 1, "unbox ( ", "x", " )"},
	}
	for _, x := range tests {
		if e := x.read(t, deep(x.n, x.ahead, x.inner, x.behind)); e != (api.Err{}) {
			t.Errorf("%q, %d deep: %v", x.ahead, x.n, e)
		}
		ahead := strings.Repeat(x.ahead, x.n+1)
		for _, next := range []string{x.inner, "", ";", ">", "&&", "="} {
			if e := x.read(t, ahead+next); e != behind(api.Limit, ahead) {
				t.Errorf("%q, %d deep, and %q: %v", x.ahead, x.n+1, next, e)
			}
		}
		less := strings.Repeat(x.ahead, x.n)
		if e := x.read(t, less+"="); e != behind(api.Syntax, less) {
			t.Errorf("%q, %d deep, and a =: %v", x.ahead, x.n, e)
		}
	}
}

// P4.1: all that counts counts together: blocks, unaries and types.
func TestDepthTogether(t *testing.T) {
	const most = api.MaxDepth
	head := "fn f ( ) "
	open := head + strings.Repeat("{ ", most)
	closing := strings.Repeat(" }", most)
	for _, s := range []string{"", "abort ;", "return ;", "let x ;"} {
		if e := programTold(t, open+s+closing); e != (api.Err{}) {
			t.Errorf("%q: %v", s, e)
		}
	}
	for ahead, next := range map[string]string{
		"":         "{ }",
		"if ":      "x { }",
		"while ":   "x { }",
		"return ":  "x ;",
		"let x : ": "int ;",
		"let x = ": "x ;",
		"abort ; ": "x ;",
		"let x ; ": "- x ;",
	} {
		if e := programTold(t, open+ahead+next+closing); e != behind(api.Limit, open+ahead) {
			t.Errorf("%q: %v", ahead+next, e)
		}
	}
	open = head + strings.Repeat("{ ", most-1)
	closing = strings.Repeat(" }", most-1)
	for s, ahead := range map[string]string{
		"if x { } else { }":      "",
		"while x { x = 1 ; }":    "while x { ",
		"if x { } else { y ; }":  "if x { } else { ",
		"let x : int = y . f ;":  "",
		"let x : Box < int > ;":  "let x : Box < ",
		"let x : S < 'a > = y ;": "",
		"x = y + z * w ;":        "",
		"x = - y ;":              "x = - ",
		"f ( ) ;":                "",
		"f ( x ) ;":              "f ( ",
		"as T | | { } ;":         "as T | | ",
		"x . m ( ) . n ( y ) ;":  "x . m ( ) . n ( ",
	} {
		want := api.Err{}
		if ahead != "" {
			want = behind(api.Limit, open+ahead)
		}
		if e := programTold(t, open+s+closing); e != want {
			t.Errorf("%q: %v, want %v", s, e, want)
		}
	}
}

// P4.1: closures' bodies stand in the unaries that these are; what is read at one depth leaves nothing behind.
func TestDepthClosures(t *testing.T) {
	s := deep(api.MaxDepth/2, "as T | | { ", "", " ; }")
	s = strings.Replace(s, "{  ; }", "{ }", 1)
	if e := exprTold(t, s); e != (api.Err{}) {
		t.Errorf("%q: %v", s, e)
	}
	ahead := strings.Repeat("as T | | { ", api.MaxDepth/2)
	if e := exprTold(t, ahead+"x ; }"); e != behind(api.Limit, ahead) {
		t.Errorf("%v", e)
	}
	one := "( " + deep(api.MaxDepth-2, "- ", "x", "") + " )"
	if e := exprTold(t, many(20, one, " + ")); e != (api.Err{}) {
		t.Errorf("%v", e)
	}
}

// P4.2: of the greatest, too, nothing is lost.
func TestLimitsKept(t *testing.T) {
	for _, s := range []string{
		"struct S < " + many(8, "T", " , ") + " > { " + many(12, "x : S < "+many(8, "int", " , ")+" >", " , ") + " }",
		many(60, "fn f ( ) { }", " "),
		"fn f ( ) where " + many(16, "T : "+many(8, "A", " + "), " , ") + " { }",
		"fn f ( ) { " + deep(30, "{ ", "return - - - - - - - x ;", " }") + " }",
	} {
		l, e := parse.Program(s)
		if e != (api.Err{}) {
			t.Errorf("%.60q: %v", s, e)
			continue
		}
		hold(t, s).items(l)
		lost(t, s, tree.Print(l), l, parse.Program)
	}
}
