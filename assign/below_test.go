package assign_test

import (
	"slices"
	"testing"

	"leaven/api"
	"leaven/assign"
	"leaven/ast"
	"leaven/prec"
	"leaven/ty"
)

// P11.1 (K2): the sites of programs that were parsed, and of those that are filled.
func TestSites(t *testing.T) {
	p, _ := program(t, "b", "import a; def g = a!f; def h: ? -> ? = fun (x) -> [A = x];", "a", "def f = fun (x: ?) -> (x: ? -> int);", "c", "")
	for _, c := range []struct {
		l    []api.Choice
		want []int
	}{
		{nil, []int{1, 2, 3, 4, 5, 6, 7, 8}}, {choices(t, 1, "int"), []int{2, 3, 4, 5, 6, 7, 8}}, {choices(t, 2, "int", 4, "{a: int}", 7, "unit"), []int{1, 3, 5, 6, 8}}, {choices(t, 99, "int"), []int{1, 2, 3, 4, 5, 6, 7, 8}},
		{choices(t, 1, "int", 2, "int", 3, "int", 4, "int", 5, "int", 6, "int", 7, "int", 8, "int", 9, "int"), nil},
	} {
		if got := assign.Sites(assign.Program(p, c.l)); !slices.Equal(got, c.want) {
			t.Errorf("%v: %v, want %v", c.l, got, c.want)
		}
	}
	for _, q := range [][]api.Module{nil, {}, {{Name: "m", Sites: []api.Site{{From: 1, To: 2}}}}, p[:0]} {
		if got := assign.Sites(q); len(got) != 0 {
			t.Errorf("%v: %v", q, got)
		}
	}
}

// P11.1 (K2): sites are found in all types, in any order and more than once; those that are not above 0 are none.
func TestSitesEverywhere(t *testing.T) {
	for kind := api.Lit; kind <= api.Cast; kind++ {
		p := []api.Module{
			{Name: "b", Defs: []api.Def{{Name: "x", T: sited(t, "? -> {a: ?, b: int}", 9, 0), E: api.Expr{{Kind: kind, T: sited(t, "?", 70)}, {Kind: kind, Num: 5, Many: 6, U: sited(t, "[A: ?] -> ?", 3, 9)}}}}},
			{Name: "a"}, {Name: "c", Defs: []api.Def{{}, {T: sited(t, "?", -1)}, {T: sited(t, "?", 3)}, {E: api.Expr{{Kind: kind, T: sited(t, "? -> ?", 2, 1<<63-1), U: sited(t, "? -> ?", -1<<63, 1)}}}}},
		}
		if got, want := assign.Sites(p), []int{1, 2, 3, 9, 70, 1<<63 - 1}; !slices.Equal(got, want) {
			t.Errorf("%d: %v, want %v", kind, got, want)
		}
	}
}

// below is the chapter's definition, of programs that are taken apart into what is compared.
func below(a, b []api.Module) bool {
	var names [2][]string
	var shapes [2]api.Expr
	var types [2][]api.Type
	for k, p := range [][]api.Module{a, b} {
		for _, m := range p {
			names[k] = append(append(append(names[k], "module", m.Name), m.Imports...), "imported")
			for _, d := range m.Defs {
				names[k], types[k] = append(names[k], "def", d.Name), append(types[k], d.T)
				shapes[k] = append(shapes[k], api.Part{Kind: -1})
				for _, part := range d.E {
					types[k] = append(types[k], part.T, part.U)
					part.T, part.U = nil, nil
					shapes[k] = append(shapes[k], part)
				}
			}
		}
	}
	if !slices.Equal(names[0], names[1]) || !ast.Same(shapes[0], shapes[1]) {
		return false
	}
	for i, x := range types[0] {
		if y := types[1][i]; len(x)+len(y) > 0 && !prec.Below(x, y) {
			return false
		}
	}
	return true
}

// P11.1 (K2): all pairs of programs whose texts differ in some type, in some name, or in some part.
func TestBelow(t *testing.T) {
	var l [][]api.Module
	for _, s := range []string{
		"def x = 1;", "def x: int = 1;", "def x: bool = 1;", "def x = 2;", "def x = true;", "def x = \"1\";", "def x = ();", "def x = \"2\";", "def x = false;", "def y = 1;", "def x = 1; def y = 1;", "def y = 1; def x = 1;", "def y = 1; def x: int = 1;", "",
		"def x = fun (x) -> x;", "def x: ? -> ? = fun (x) -> x;", "def x: int -> ? = fun (x) -> x;", "def x: ? -> int = fun (x) -> x;", "def x: int -> int = fun (x: int) -> x;", "def x = fun (x: int) -> x;", "def x = fun (x: bool) -> x;", "def x = fun (x: ? -> ?) -> x;", "def x = fun (y) -> y;",
		"def x = rec f (x) = x in f;", "def x = rec f (x: int) = x in f;", "def x = rec f (x): int = x in f;", "def x = rec f (x: int): int = x in f;", "def x = rec f (x: int): bool = x in f;", "def x = rec g (x) = x in g;",
		"def x = let x = 1 in x;", "def x = let x: int = 1 in x;", "def x = (1: ?);", "def x = (1: int);", "def x = ((1: ?): ?);", "def x = [A = 1];", "def x = [A = 1: [A: ?]];", "def x = [A = 1: [A: int]];", "def x = [A = 1: [A: int | B: ?]];", "def x = [B = 1];",
		"def x = {a = 1};", "def x: {a: ?} = {a = 1};", "def x: {b: ?} = {a = 1};", "def x: {a: int} = {a = 1};", "def x = {b = 1};", "def x = {a = 1, b = 1};", "def x = {b = 1, a = 1};", "def x = {a = 1}.a;", "def x = {a = 1}.b;", "def x = {};",
		"def x = 1 + 1;", "def x = 1 - 1;", "def x = 1 1;", "def x = if 1 then 1 else 1;", "def x = case 1 of A x -> 1 end;", "def x = case 1 of B x -> 1 end;", "def x = case 1 of A x -> 1 | B x -> 1 end;", "def x = case 1 of A y -> 1 end;",
	} {
		p, _ := program(t, "m", s)
		l = append(l, p)
	}
	for _, s := range [][]string{
		{"a", "", "b", ""}, {"a", "", "b", "import a;"}, {"b", "", "a", "import b;"}, {"a", "def x = 1;", "b", ""}, {"a", "", "b", "def x = 1;"}, {"a", "def x = 1;", "b", "import a; def x = a!x;"}, {"a", "def x: int = 1;", "b", "import a; def x = a!x;"}, {"a", "def x = 1;", "b", "import a; def x: int = a!x;"},
		{"a", "", "b", "", "c", "import a; import b;"}, {"a", "", "b", "", "c", "import b; import a;"}, {"a", "", "b", "", "c", "import b;"}, {"n", "def x = 1;"}, {"a", ""}, {},
	} {
		p, _ := program(t, s...)
		l = append(l, p)
	}
	found := 0
	for _, a := range l {
		for _, b := range l {
			got := assign.Below(a, b)
			if got != below(a, b) {
				t.Errorf("%s, %s: %t", printed(a), printed(b), got)
			}
			if got {
				found++
			}
		}
	}
	if pairs := len(l); found < pairs+30 || found > 2*pairs {
		t.Errorf("%d of %d programs", found, pairs)
	}
}

// place is a program, its last module, the last definition of that, and the last part of that.
type place struct {
	p    []api.Module
	m    *api.Module
	d    *api.Def
	part *api.Part
}

// with is a program with two modules, of which the last one has two definitions, that was changed.
func with(change func(at place)) []api.Module {
	part := func() api.Part {
		return api.Part{Kind: api.Cast, Label: "l", Name: "n", Bind: "b", Many: 1, Num: 1, T: api.Type{{N: 1}}, U: api.Type{{N: 2}}}
	}
	p := []api.Module{{Name: "a"}, {Name: "m", Imports: []string{"a"}, Defs: []api.Def{{Name: "d", T: api.Type{{N: 3}}}, {Name: "e", T: api.Type{{N: 4}}, E: api.Expr{part(), part()}}}, Sites: []api.Site{{From: 1, To: 2}}}}
	m := &p[1]
	change(place{p, m, &m.Defs[1], &m.Defs[1].E[1]})
	return p
}

// P11.1 (K2): each field counts that is not a site, and is the same in both programs; of types it counts how precise they are.
func TestBelowFields(t *testing.T) {
	same := with(func(place) {})
	integer := api.Type{{Kind: api.Int}}
	for i, c := range []struct {
		change      func(at place)
		less, great bool // whether it is below the same, and the same is below it
	}{
		{func(place) {}, true, true},
		{func(at place) { at.m.Sites = nil }, true, true},
		{func(at place) { at.p[0].Sites = at.m.Sites }, true, true},
		{func(at place) { at.p[0].Imports = []string{} }, true, true},
		{func(at place) { at.part.T[0].N, at.d.T[0].N = 7, 0 }, true, true},
		{func(at place) { at.d.T = integer }, true, false},
		{func(at place) { at.m.Defs[0].T = integer }, true, false},
		{func(at place) { at.part.T = integer }, true, false},
		{func(at place) { at.part.U = integer }, true, false},
		{func(at place) { at.d.E[0].U = integer }, true, false},
		{func(at place) { at.d.T, at.d.E[0].U, at.part.T = integer, integer, integer }, true, false},
		{func(at place) { at.part.T = nil }, false, false},
		{func(at place) { at.d.T = nil }, false, false},
		{func(at place) { at.d.E[0].Kind = api.Rec }, false, false},
		{func(at place) { at.part.Kind = api.As }, false, false},
		{func(at place) { at.part.Label = "" }, false, false},
		{func(at place) { at.part.Name = "m" }, false, false},
		{func(at place) { at.part.Bind = "c" }, false, false},
		{func(at place) { at.part.Many = 2 }, false, false},
		{func(at place) { at.part.Num = 2 }, false, false},
		{func(at place) { at.d.E = at.d.E[:1] }, false, false},
		{func(at place) { at.d.E = nil }, false, false},
		{func(at place) { at.d.E = append(at.d.E, *at.part) }, false, false},
		{func(at place) { at.m.Defs[0].E, at.d.E = at.d.E, nil }, false, false},
		{func(at place) { at.d.Name = "f" }, false, false},
		{func(at place) { at.m.Defs[0].Name = "e" }, false, false},
		{func(at place) { at.m.Defs = at.m.Defs[1:] }, false, false},
		{func(at place) { at.m.Defs = nil }, false, false},
		{func(at place) { at.p[0].Defs = at.m.Defs }, false, false},
		{func(at place) { at.p[0].Defs, at.m.Defs = at.m.Defs, nil }, false, false},
		{func(at place) { at.m.Name = "n" }, false, false},
		{func(at place) { at.p[0].Name = "" }, false, false},
		{func(at place) { at.m.Imports = nil }, false, false},
		{func(at place) { at.m.Imports = []string{"b"} }, false, false},
		{func(at place) { at.m.Imports = []string{"a", "a"} }, false, false},
		{func(at place) { at.p[0].Imports = at.m.Imports }, false, false},
	} {
		changed := with(c.change)
		if less, great := assign.Below(changed, same), assign.Below(same, changed); less != c.less || great != c.great || !assign.Below(changed, changed) {
			t.Errorf("%d: %t %t", i, less, great)
		}
	}
	if less := same[:1]; assign.Below(same, less) || assign.Below(less, same) || assign.Below(nil, same) || assign.Below(same, nil) || !assign.Below(nil, []api.Module{}) {
		t.Error("more modules")
	}
}

// P11.1 (K2): types are compared as in layer 7 wherever they stand, also if one of two becomes more and the other one less precise.
func TestBelowTypes(t *testing.T) {
	l := small(4)
	for _, x := range l {
		for _, y := range l {
			put := func(z api.Type) [3][]api.Module {
				return [3][]api.Module{
					with(func(at place) { at.d.T = z }), with(func(at place) { at.part.T = z }), with(func(at place) { at.part.U = z }),
				}
			}
			a, b, want := put(x), put(y), prec.Below(x, y)
			for i := range a {
				if assign.Below(a[i], b[i]) != want {
					t.Fatalf("%d: %s, %s: %t", i, ty.Print(x), ty.Print(y), !want)
				}
			}
		}
	}
	integer := api.Type{{Kind: api.Int}}
	first := with(func(at place) { at.part.T = integer })
	second := with(func(at place) { at.part.U = integer })
	if assign.Below(first, second) || assign.Below(second, first) {
		t.Error("different parts")
	}
}
