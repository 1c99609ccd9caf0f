package lower_test

import (
	"strings"
	"testing"

	"chattel/api"
	"chattel/lower"
	"chattel/mir"
	"chattel/names"
	"chattel/parse"
	"chattel/sigs"
	"chattel/tree"
	"chattel/types"
)

type T = types.Type

// world is the heads of a program, and its items.
type world struct {
	items []tree.Item
	table *names.Table
	env   *sigs.Env
}

func build(t *testing.T, items []tree.Item) world {
	t.Helper()
	tab, wrong := names.New(items)
	if len(wrong) > 0 {
		t.Fatalf("%s: %v", tree.Print(items), wrong)
	}
	env, wrong := sigs.Build(tab)
	if len(wrong) > 0 {
		t.Fatalf("%s: %v", tree.Print(items), wrong)
	}
	return world{items, tab, env}
}

// read: of a text in which nothing is wrong but in bodies.
func read(t *testing.T, text string) world {
	t.Helper()
	l, e := parse.Program(text)
	if e != (api.Err{}) {
		t.Fatalf("%s: %v", text, e)
	}
	return build(t, l)
}

// piece is a job that was lowered, among the heads of its closures.
type piece struct {
	job  lower.Job
	env  *sigs.Env
	done lower.Done
}

// more: heads with those of closures behind them.
func more(env *sigs.Env, d lower.Done) *sigs.Env {
	out := &sigs.Env{Heads: env.Heads}
	out.Structs = append(append([]sigs.Struct{}, env.Structs...), d.Structs...)
	out.Impls = append(append([]sigs.Impl{}, env.Impls...), d.Impls...)
	return out
}

// one: a job and all its closures', lowered.
func one(t *names.Table, env *sigs.Env, j lower.Job) ([]piece, api.Err) {
	d, e := lower.Lower(t, env, j)
	if e != (api.Err{}) {
		return nil, e
	}
	out := []piece{{j, more(env, d), d}}
	for _, x := range d.Jobs {
		l, e := one(t, out[0].env, x)
		if e != (api.Err{}) {
			return nil, e
		}
		out = append(out, l...)
	}
	return out, api.Err{}
}

// pieces: of all jobs of a program.
func (w world) pieces() ([]piece, api.Err) {
	var out []piece
	for _, j := range lower.Jobs(w.table, w.env) {
		l, e := one(w.table, w.env, j)
		if e != (api.Err{}) {
			return nil, e
		}
		out = append(out, l...)
	}
	return out, api.Err{}
}

func all(t *testing.T, text string) []piece {
	t.Helper()
	l, e := read(t, text).pieces()
	if e != (api.Err{}) {
		t.Fatalf("%s: %v", text, e)
	}
	for _, p := range l {
		if s := untyped(p); s != "" {
			t.Fatalf("%s: %s: %s\n%s", text, p.job.Name, s, mir.Text(p.done.Body))
		}
	}
	return l
}

// marked: a text without its #, and the place where that stood.
func marked(text string) (string, api.Pos) {
	i := strings.Index(text, "#")
	if i < 0 {
		return text, api.Pos{}
	}
	ahead := text[:i]
	return ahead + text[i+1:], api.Pos{Line: 1 + strings.Count(ahead, "\n"), Col: i - strings.LastIndex(ahead, "\n")}
}

// lib is heads for bodies to be lowered among.
const lib = `
struct S { b : Box < int > , n : int }
struct P < T > { a : T , b : T }
struct R < 'a > { r : & 'a int , n : int }
struct W < 'a > { w : & 'a mut int }
struct Two < T , U > { t : T , u : U , v : Box < Box < dyn Show > > }
struct None { }
struct Only < T > { }
trait Get { fn get ( & self ) -> int ; fn put ( & mut self , n : int ) ; fn eat ( self ) -> int ; fn box ( & self , x : Box < Box < dyn Show > > ) -> int ; }
trait Call { fn call ( & self , a : int ) -> int ; }
trait Mut { fn set ( & mut self , a : int ) -> int ; }
trait Once { fn once ( self , a : int ) -> int ; }
trait Show { fn show ( & self ) -> int ; }
trait Peek { fn peek ( & self ) -> & int ; fn poke ( & mut self ) -> & mut int ; }
trait Add { fn add ( self , n : int ) -> int ; }
trait A { fn both ( & self ) ; }
trait B { fn both ( & self ) ; }
impl A for int { fn both ( & self ) { } }
impl B for int { fn both ( & self ) { } }
impl Peek for S { fn peek ( & self ) -> & int { return & self . n ; } fn poke ( & mut self ) -> & mut int { return & mut self . n ; } }
impl Show for int { fn show ( & self ) -> int { return * self ; } }
impl Show for S { fn show ( & self ) -> int { return self . n ; } }
impl Show for P where T : Show { fn show ( & self ) -> int { return self . a . show ( ) * 10 + self . b . show ( ) ; } }
impl Add for int { fn add ( self , n : int ) -> int { return self + n ; } }
impl Get for S {
	fn get ( & self ) -> int { return self . n + * self . b ; }
	fn put ( & mut self , n : int ) { self . n = n ; * self . b = n ; }
	fn eat ( self ) -> int { return unbox ( self . b ) ; }
	fn box ( & self , x : Box < Box < dyn Show > > ) -> int { return x . show ( ) ; }
}
fn id ( x : & mut int ) -> & mut int { return & mut * x ; }
fn rd ( x : & int ) -> int { return * x ; }
fn inc ( x : & mut int ) -> int { * x = * x + 1 ; return * x ; }
fn pick < 'a > ( x : & 'a int , y : & 'a int , c : bool ) -> & 'a int { if c { return x ; } return y ; }
fn same < T > ( x : T ) -> T { return x ; }
fn two < T > ( x : T , y : T ) -> P < T > { return new P { b : y , a : x } ; }
fn pair < T , U > ( t : T , u : U , v : Box < Box < dyn Show > > ) -> Two < T , U > { return new Two { v : v , u : u , t : t } ; }
fn show < T > ( x : & T ) -> int where T : Show { return x . show ( ) ; }
fn lent ( x : & dyn Show ) -> int { return x . show ( ) ; }
fn own ( x : Box < dyn Show > ) -> int { return x . show ( ) ; }
fn nest ( x : Box < Box < dyn Show > > ) -> int { return x . show ( ) ; }
fn drop < T > ( x : T ) { }
fn three ( a : int , b : int , c : int ) -> int { return a * 100 + b * 10 + c ; }
fn none ( ) { }
fn keep < 'a > ( r : & mut & 'a int , x : & 'a int ) -> bool { * r = x ; return true ; }
fn call ( x : & dyn Call ) -> int { return x . call ( 7 ) ; }
`
