package sigs_test

import (
	"reflect"
	"testing"

	"chattel/api"
	"chattel/sigs"
	"chattel/types"
)

// unlike: no two of these texts are the same.
func unlike(t *testing.T, texts []string) {
	t.Helper()
	seen := map[string]int{}
	for i, s := range texts {
		if j, ok := seen[s]; ok {
			t.Errorf("%d and %d: %s", j, i, s)
		}
		seen[s] = i
	}
}

// sigList: signatures of which no two are alike.
func sigList() []sigs.Sig {
	l := []sigs.Sig{
		{}, {Lifes: 1}, {Lifes: -1}, {Lifes: 11},
		{Types: []string{"T"}}, {Types: []string{"U"}}, {Types: []string{"T", "U"}}, {Types: []string{"U", "T"}}, {Types: []string{"T U"}}, {Types: []string{""}}, {Types: []string{"T\" \"U"}}, {Types: []string{"T", ""}}, {Types: []string{"\xff"}}, {Types: []string{"\ufffd"}}, {Types: []string{"\\xff"}}, {Types: []string{"]", "["}},
		{Outs: [][2]int{{1, 2}}}, {Outs: [][2]int{{2, 1}}}, {Outs: [][2]int{{1, 2}, {2, 1}}}, {Outs: [][2]int{{12, 1}}}, {Outs: [][2]int{{1, 21}}}, {Outs: [][2]int{{-1, 2}}},
		{Bounds: []sigs.Bound{{Type: "T", Trait: "Q"}}}, {Bounds: []sigs.Bound{{Type: "Q", Trait: "T"}}}, {Bounds: []sigs.Bound{{Type: "T", Trait: "Q"}, {Type: "T", Trait: "R"}}}, {Bounds: []sigs.Bound{{Type: "TQ"}}}, {Bounds: []sigs.Bound{{Trait: "TQ"}}}, {Bounds: []sigs.Bound{{}}}, {Bounds: []sigs.Bound{{}, {}}},
		{Types: []string{"T", "Q"}, Bounds: []sigs.Bound{}}, {Lifes: 1, Types: []string{"T"}},
	}
	for i, x := range typeList() {
		if i > 0 {
			l = append(l, sigs.Sig{Ret: x})
		}
		l = append(l, sigs.Sig{Params: []T{x}}, sigs.Sig{Params: []T{x, integer}}, sigs.Sig{Params: []T{integer, integer, x}}, sigs.Sig{Params: []T{x}, Ret: integer, Lifes: 3})
	}
	return l
}

// typeList: types of which no two are alike; the first is the zero value.
func typeList() []T {
	return []T{
		{}, {Kind: types.Bool}, {Kind: types.Unit}, {Kind: 77}, {Kind: -1},
		str("S", nil), str("S", []int{1}), str("S", []int{1, 2}), str("S", []int{12}), str("S'1", nil), str("S", []int{2, 1}), str("S", nil, integer), str("S<int>", nil), str("S", nil, integer, integer), str("S", nil, str("S", nil, integer)), str("S", nil, str("S", nil), integer),
		param("S", 1), param("S", 2), {Kind: types.Param, Name: "S", Region: 1, Regions: []int{1}}, param("S?1", 1),
		ref(1, integer), mut(1, integer), ref(2, integer), ref(12), ref(1), box(integer), box(box(integer)), box(), dyn(1), dyn(2), {Kind: types.Dyn, Name: "R", Region: 1}, {Kind: types.Dyn, Name: "Q+1", Region: 1},
		{Kind: types.Int, Region: 5}, {Kind: types.Int, Name: "x"}, {Kind: types.Int, Mut: true}, {Kind: types.Int, Regions: []int{1}}, {Kind: types.Int, Args: []T{integer}}, {Kind: types.Ref, Region: 1, Regions: []int{1}, Args: []T{integer}},
	}
}

// methodList: methods of which no two are alike.
func methodList() []sigs.Method {
	l := []sigs.Method{{}, {Name: "m"}, {Name: "n"}, {Name: "1"}, {Recv: 1}, {Recv: 2}, {Life: 1}, {Recv: 1, Life: 1}, {Recv: 11}, {Life: 11}}
	for _, s := range sigList()[1:] {
		l = append(l, sigs.Method{Sig: s})
	}
	return l
}

// P9.1: unlike signatures and methods have unlike texts.
func TestSigText(t *testing.T) {
	var texts []string
	for _, s := range sigList() {
		texts = append(texts, sigs.SigText(s))
	}
	unlike(t, texts)
	texts = nil
	for _, m := range methodList() {
		texts = append(texts, sigs.MethodText(m))
	}
	unlike(t, texts)
}

// headList: heads of which no two are alike.
func headList() []api.Heads {
	l := []api.Heads{{}}
	structs := []sigs.Struct{{}, {Name: "S"}, {Lifes: 1}, {Types: []string{"T"}}, {Fields: []sigs.Field{{}}}, {Fields: []sigs.Field{{Name: "x"}}}, {Fields: []sigs.Field{{Type: integer}}}, {Fields: []sigs.Field{{Name: "x"}, {Name: "y"}}}, {Fields: []sigs.Field{{Name: "y"}, {Name: "x"}}}}
	for _, x := range structs {
		l = append(l, api.Heads{Structs: []sigs.Struct{x}}, api.Heads{Structs: []sigs.Struct{x, {Name: "Z"}}})
	}
	traits := []sigs.Trait{{}, {Name: "Q"}}
	impls := []sigs.Impl{{}, {Trait: "Q"}, {Head: "Q"}, {Bounds: []sigs.Bound{{}}}, {Bounds: []sigs.Bound{{Type: "T"}}}, {Bounds: []sigs.Bound{{Trait: "T"}}}}
	for _, m := range methodList() {
		traits = append(traits, sigs.Trait{Methods: []sigs.Method{m}}, sigs.Trait{Methods: []sigs.Method{m, {}}})
		impls = append(impls, sigs.Impl{Methods: []sigs.Method{m}}, sigs.Impl{Methods: []sigs.Method{{Name: "z"}, m}})
	}
	for _, x := range traits {
		l = append(l, api.Heads{Traits: []sigs.Trait{x}}, api.Heads{Traits: []sigs.Trait{{Name: "Z"}, x}})
	}
	for _, x := range impls {
		l = append(l, api.Heads{Impls: []sigs.Impl{x}}, api.Heads{Impls: []sigs.Impl{x, {Trait: "Z"}}})
	}
	for _, s := range sigList() {
		l = append(l, api.Heads{Fns: []sigs.Fn{{Sig: s}}}, api.Heads{Fns: []sigs.Fn{{Name: "f", Sig: s}}}, api.Heads{Fns: []sigs.Fn{{Sig: s}, {Name: "f"}}})
	}
	return l
}

// P9.1: unlike heads have unlike texts.
func TestText(t *testing.T) {
	var texts []string
	for _, h := range headList() {
		texts = append(texts, (&sigs.Env{Heads: h}).Text())
	}
	unlike(t, texts)
}

// P9.1: the same heads have the same text, wherever they stand; Needs and Ways aren't told.
func TestTextSame(t *testing.T) {
	one := heads(t, ahead+"trait M { fn m ( & self ) ; } impl M for int { fn m ( & self ) { } } fn f ( x : & int ) -> & int { return x ; }")
	two := heads(t, "\n\n"+ahead+"trait M {\nfn m ( & self ) ; }\n impl M for int {\n fn m ( & self ) { abort ; } }\n // elsewhere\n fn f ( x : & int ) -> & int { abort ; }")
	if one.Text() != two.Text() || one.Impls[0].At == two.Impls[0].At {
		t.Error(one.Text(), two.Text())
	}
	two.Needs, two.Ways = nil, nil
	if one.Text() != two.Text() {
		t.Error("needs")
	}
	var none *sigs.Env
	if none.Text() != (&sigs.Env{}).Text() || none.Text() == one.Text() {
		t.Error(none.Text())
	}
	// Nil and empty lists are one.
	empty := &sigs.Env{Heads: api.Heads{Structs: []sigs.Struct{}, Traits: []sigs.Trait{}}}
	if none.Text() != empty.Text() || sigs.SigText(sigs.Sig{}) != sigs.SigText(sigs.Sig{Types: []string{}, Outs: [][2]int{}, Bounds: []sigs.Bound{}, Params: []T{}, Ret: T{Args: []T{}, Regions: []int{}}}) {
		t.Error("empty")
	}
}

// P9.1: a text of types that lie 2^16 deep in one another.
func TestTextDeep(t *testing.T) {
	deep := func(x T) sigs.Sig {
		for range 1<<16 - 2 {
			x = box(x)
		}
		return sigs.Sig{Ret: x}
	}
	if sigs.SigText(deep(ref(1))) == sigs.SigText(deep(ref(2))) {
		t.Error("deep")
	}
}

// P9.1 (rule 4): what is told of isn't changed.
func TestTextKeeps(t *testing.T) {
	l, same := headList(), headList()
	for i, h := range l {
		(&sigs.Env{Heads: h}).Text()
		if !reflect.DeepEqual(h, same[i]) {
			t.Fatal(h)
		}
	}
}
