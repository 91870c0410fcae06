package scope_test

import (
	"fmt"
	"slices"
	"testing"

	"leaven/api"
	"leaven/scope"
)

// watcher keeps the slices that make up an argument, with what lies beyond their length.
type watcher struct {
	all []any
}

// cut is a copy of l, with x beyond its length.
func cut[E any](w *watcher, l []E, x E) []E {
	long := append(slices.Clone(l), x)
	w.all = append(w.all, long)
	return long[:len(l)]
}

// modules is a copy of l, of which all slices have something beyond their length.
func (w *watcher) modules(l []api.Module) []api.Module {
	typ := func(t api.Type) api.Type { return cut(w, t, api.Node{Name: "beyond", N: 1}) }
	l = cut(w, l, api.Module{Name: "beyond"})
	for i := range l {
		m := &l[i]
		m.Imports, m.Sites, m.Defs = cut(w, m.Imports, "beyond"), cut(w, m.Sites, api.Site{From: 99}), cut(w, m.Defs, api.Def{Name: "beyond"})
		for k := range m.Defs {
			d := &m.Defs[k]
			d.T, d.E = typ(d.T), cut(w, d.E, api.Part{Name: "beyond"})
			for j := range d.E {
				d.E[j].T, d.E[j].U = typ(d.E[j].T), typ(d.E[j].U)
			}
		}
	}
	return l
}

// own fills each of the lists, also beyond its length, and tells whether none of them has what another one was filled with.
func own[E any](lists [][]E, mark func(*E, int), marked func(E, int) bool) bool {
	for i, l := range lists {
		for k := range l[:cap(l)] {
			mark(&l[:cap(l)][k], i)
		}
	}
	for i, l := range lists {
		if slices.ContainsFunc(l[:cap(l)], func(x E) bool { return !marked(x, i) }) {
			return false
		}
	}
	return true
}

// ownTypes fills types, and tells whether they share nothing.
func ownTypes(types []api.Type) bool {
	var l [][]api.Node
	for _, t := range types {
		l = append(l, t)
	}
	return own(l, func(n *api.Node, i int) { *n = api.Node{Kind: -1, N: i} }, func(n api.Node, i int) bool { return n.Kind == -1 && n.N == i })
}

// ownModules fills all that modules consist of, and tells whether nothing is shared.
func ownModules(l []api.Module) bool {
	var imports [][]string
	var sites [][]api.Site
	var defs [][]api.Def
	var exprs [][]api.Part
	var typs []api.Type
	for _, m := range l {
		imports, sites, defs, typs = append(imports, m.Imports), append(sites, m.Sites), append(defs, m.Defs), append(typs, types(m)...)
		for _, d := range m.Defs {
			exprs = append(exprs, d.E)
		}
	}
	ok := ownTypes(typs)
	ok = own(exprs, func(p *api.Part, i int) { *p = api.Part{Many: i} }, func(p api.Part, i int) bool { return p.Many == i }) && ok
	ok = own(defs, func(d *api.Def, i int) { d.Name = fmt.Sprint(i) }, func(d api.Def, i int) bool { return d.Name == fmt.Sprint(i) }) && ok
	ok = own(sites, func(s *api.Site, i int) { s.From = i }, func(s api.Site, i int) bool { return s.From == i }) && ok
	return own(imports, func(s *string, i int) { *s = fmt.Sprint(i) }, func(s string, i int) bool { return s == fmt.Sprint(i) }) && ok
}

// R4 and R5: arguments stay as they are, also beyond the length of a slice; answers are new memory, and the same each time.
func TestMemory(t *testing.T) {
	var w watcher
	l := w.modules(mods(t, "a", "def x: ? = 1; def y = rec f (x: ?): ? -> ? = f x in f;", "c", "import a; import b; def x = [A = (a!x: ?)]; def y: {a: ?} = x; def z: int = 3;", "b", ""))
	was := fmt.Sprint(w.all)
	var answers [2]string
	for k := range answers {
		numbered, n, e := scope.Number(l)
		program, n2, at, e2 := scope.Program(l)
		env := scope.Env(l, 1, 1)
		answers[k] = fmt.Sprint(numbered, n, e, program, n2, at, e2, env)
		var types []api.Type
		for _, b := range env {
			types = append(types, b.T)
		}
		if !ownModules(numbered) || !ownModules(program) || !ownTypes(types) {
			t.Error("two lists of an answer share memory")
		}
		m, d, name, e := scope.Names(l)
		module, site, e3 := scope.Where(l, 5)
		answers[k] += fmt.Sprint(m, d, name, e, module, site, e3)
		if got := fmt.Sprint(w.all); got != was {
			t.Fatalf("%s, was %s", got, was)
		}
	}
	if answers[0] != answers[1] {
		t.Errorf("%s, then %s", answers[0], answers[1])
	}
}
