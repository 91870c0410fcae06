package scope_test

import (
	"slices"
	"strings"
	"testing"

	"leaven/api"
	"leaven/scope"
)

// equal tells whether modules are the same with all their sites.
func equal(a, b api.Module) bool {
	return a.Name == b.Name && slices.Equal(a.Imports, b.Imports) && slices.Equal(a.Sites, b.Sites) && slices.EqualFunc(a.Defs, b.Defs, func(c, d api.Def) bool {
		return c.Name == d.Name && slices.Equal(c.T, d.T) && slices.EqualFunc(c.E, d.E, equalParts)
	})
}

func equalParts(p, q api.Part) bool {
	return p.Kind == q.Kind && p.Label == q.Label && p.Name == q.Name && p.Bind == q.Bind && p.Many == q.Many && p.Num == q.Num && slices.Equal(p.T, q.T) && slices.Equal(p.U, q.U)
}

// types is all types of a module.
func types(m api.Module) []api.Type {
	var l []api.Type
	for _, d := range m.Defs {
		l = append(l, d.T)
		for _, p := range d.E {
			l = append(l, p.T, p.U)
		}
	}
	return l
}

// sitesOf is the sites of all ? of a module, in the order of its types.
func sitesOf(m api.Module) []int {
	var l []int
	for _, x := range types(m) {
		for _, n := range x {
			if n.Kind == api.Dyn {
				l = append(l, n.N)
			}
		}
	}
	return l
}

// padded is a module with n sites.
func padded(name string, n int) api.Module {
	m := api.Module{Name: name, Sites: make([]api.Site, n)}
	for i := range n {
		m.Sites[i].From = i
		m.Defs = append(m.Defs, api.Def{Name: "x" + strings.Repeat("a", i), T: api.Type{{N: i + 1}}, E: api.Expr{{Kind: api.Rows}}})
	}
	return m
}

// P9.1 (I2): each ? with a site is numbered, wherever it is, and nothing else changes.
func TestNumberEverywhere(t *testing.T) {
	all := func(site int) api.Type { // int, a ? with the site, one without, and nodes whose N are no sites
		return api.Type{{Kind: api.Arrow}, {Kind: api.Record, N: 2}, {Name: "a", N: site}, {Kind: api.Int, Name: "b"}, {Kind: api.Union, N: 2}, {Kind: api.Arrow, Name: "A"}, {}, {N: site + 1}, {Kind: api.Var, Name: "B", N: 1}}
	}
	module := func(before int) api.Module {
		m := api.Module{Name: "m", Imports: []string{"l", "k"}, Sites: []api.Site{{From: 1, To: 2}, {From: 3, To: 3, Miss: true}}}
		for kind := api.Lit; kind <= api.Cast; kind++ {
			e := api.Expr{{Kind: kind, Label: "l", Name: "n", Bind: "b", Many: 1, Num: 7, T: all(before + 1), U: all(before + 3)}, {Kind: api.Name, Name: "x"}, {Kind: kind, T: all(before + 5), U: all(before + 7)}}
			m.Defs = append(m.Defs, api.Def{Name: "d", T: all(before + 9), E: e})
		}
		return m
	}
	l := []api.Module{padded("l", 4), module(0), padded("k", 0), module(0), padded("j", 9)}
	p, n, e := scope.Number(l)
	if n != 17 || e != api.OK || len(p) != 5 {
		t.Fatalf("%d %d %v", n, e, p)
	}
	for i, want := range []api.Module{l[0], module(4), l[2], module(6), padded("j", 9)} {
		if i == 4 {
			for k := range want.Defs {
				want.Defs[k].T[0].N += 8
			}
		}
		if !equal(p[i], want) {
			t.Errorf("%d: %v, want %v", i, p[i], want)
		}
	}
}

// P9.1 (I2): a ? without a site stays as it is, and so does a number that is no site.
func TestNumberNone(t *testing.T) {
	l := []api.Module{padded("a", 3), {Name: "b", Defs: []api.Def{{Name: "x", T: api.Type{{Kind: api.Arrow}, {}, {N: -1}}, E: api.Expr{{Kind: api.As, T: api.Type{{N: -1 << 63}}}, {Kind: api.Cast, T: api.Type{{}}, U: api.Type{{Kind: api.Tail, N: 2}}}}}}}}
	p, n, e := scope.Number(l)
	if n != 3 || e != api.OK || !slices.EqualFunc(p, l, equal) {
		t.Errorf("%v %d %d", p, n, e)
	}
}

// P9.1 (I2): at most MaxSites sites, in one module or in many.
func TestNumberMany(t *testing.T) {
	for _, c := range []struct {
		counts []int
		n      int
	}{
		{nil, 0}, {[]int{0}, 0}, {[]int{1}, 1}, {[]int{60}, 60}, {[]int{0, 60, 0}, 60}, {[]int{30, 30}, 60}, {[]int{59, 1, 0}, 60}, {[]int{1, 58}, 59},
		{[]int{61}, -1}, {[]int{60, 1}, -1}, {[]int{1, 60}, -1}, {[]int{20, 20, 20, 0, 1}, -1}, {[]int{61, 0}, -1}, {[]int{0, 1000}, -1}, {[]int{100, 100}, -1},
	} {
		var l []api.Module
		for _, count := range c.counts {
			l = append(l, padded("m", count))
		}
		p, n, e := scope.Number(l)
		if c.n < 0 && (len(p) != 0 || n != 0 || e != api.ErrMany) || c.n >= 0 && (len(p) != len(l) || n != c.n || e != api.OK) {
			t.Errorf("%v: %d %d %d", c.counts, len(p), n, e)
		}
	}
}

// P9.1 (I2), and the chapter's example: where sites are, also those of a program that has too many.
func TestWhere(t *testing.T) {
	for _, c := range []struct {
		counts       []int
		site, m, own int
		e            api.Errno
	}{
		{[]int{2, 3}, 4, 1, 2, api.OK}, {[]int{2, 3}, 1, 0, 1, api.OK}, {[]int{2, 3}, 2, 0, 2, api.OK}, {[]int{2, 3}, 3, 1, 1, api.OK}, {[]int{2, 3}, 5, 1, 3, api.OK},
		{[]int{0, 1, 0, 0, 1}, 1, 1, 1, api.OK}, {[]int{0, 1, 0, 0, 1}, 2, 4, 1, api.OK}, {[]int{40, 40, 40}, 61, 1, 21, api.OK}, {[]int{40, 40, 40}, 120, 2, 40, api.OK},
		{[]int{2, 3}, 6, 0, 0, api.ErrNone}, {[]int{2, 3}, 0, 0, 0, api.ErrNone}, {[]int{2, 3}, -1, 0, 0, api.ErrNone}, {[]int{2, 3}, 1<<63 - 1, 0, 0, api.ErrNone}, {[]int{2, 3}, -1 << 63, 0, 0, api.ErrNone},
		{nil, 1, 0, 0, api.ErrNone}, {nil, 0, 0, 0, api.ErrNone}, {[]int{0}, 0, 0, 0, api.ErrNone}, {[]int{0, 0}, 1, 0, 0, api.ErrNone}, {[]int{0, 1}, 0, 0, 0, api.ErrNone}, {[]int{1, 0}, 2, 0, 0, api.ErrNone},
	} {
		var l []api.Module
		for _, count := range c.counts {
			l = append(l, padded("m", count))
		}
		if m, own, e := scope.Where(l, c.site); m != c.m || own != c.own || e != c.e {
			t.Errorf("%v, %d: %d %d %d, want %d %d %d", c.counts, c.site, m, own, e, c.m, c.own, c.e)
		}
	}
}

// P9.2: the sites of parsed modules are numbered from 1 on, each once; Where inverts this, also for the program that has these numbers.
func TestUnique(t *testing.T) {
	texts := []string{
		"", "def x: int = 1;", "def x = 1;", "def x: ? -> {b: ?, a: [A: ?]} = fun (x) -> x;", "def x = let y = 1 in let z: ? = y in (z: ?);",
		"def f = rec f (x) = f x in f; def g = rec f (x): ? -> ? = f x in [A = f]; def h: ? = [B = 1: [B: ?]];", "def x: int = fun (y: int) -> case (y: [A: ? | B: int]) of A x -> fun (x) -> x | B y -> [A = y] end;",
	}
	for k := range len(texts) * len(texts) * len(texts) {
		l := mods(t, "a", texts[k%7], "c", texts[k/7%7], "b", texts[k/49])
		p, n, e := scope.Number(l)
		if e != api.OK || len(p) != 3 {
			t.Fatalf("%d: %d %d", k, e, len(p))
		}
		var seen []int
		for i, m := range p {
			before := sitesOf(l[i])
			for j, site := range sitesOf(m) {
				seen = append(seen, site)
				at, own, e := scope.Where(l, site)
				at2, own2, e2 := scope.Where(p, site)
				if at != i || own != before[j] || e != api.OK || at2 != at || own2 != own || e2 != e {
					t.Fatalf("%d: %d is %d of %d", k, site, own, at)
				}
			}
		}
		slices.Sort(seen)
		for i, site := range seen {
			if site != i+1 {
				t.Fatalf("%d: %v", k, seen)
			}
		}
		if len(seen) != n || n != len(l[0].Sites)+len(l[1].Sites)+len(l[2].Sites) {
			t.Fatalf("%d: %d sites, %v", k, n, seen)
		}
		if _, _, e := scope.Where(p, n+1); e != api.ErrNone {
			t.Fatalf("%d: %d", k, e)
		}
	}
}
