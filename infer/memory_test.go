package infer_test

import (
	"fmt"
	"slices"
	"testing"

	"leaven/api"
	"leaven/infer"
)

// roomy is l with spare capacity, in which there is something.
func roomy[E any](l []E, beyond ...E) []E {
	return slices.Concat(l, beyond)[:len(l)]
}

// roomyType is x with spare capacity.
func roomyType(x api.Type) api.Type {
	return roomy(x, api.Node{Kind: -1, Name: "beyond", N: -1}, api.Node{N: 1})
}

// roomyProgram is p in which all lists have spare capacity.
func roomyProgram(p []api.Module) []api.Module {
	p = roomy(p, api.Module{Name: "beyond"})
	for m := range p {
		p[m].Imports = roomy(p[m].Imports, "beyond")
		p[m].Sites = roomy(p[m].Sites, api.Site{From: -1})
		p[m].Defs = roomy(p[m].Defs, api.Def{Name: "beyond"})
		for d := range p[m].Defs {
			def := &p[m].Defs[d]
			def.T, def.E = roomyType(def.T), roomy(def.E, api.Part{Kind: -1})
			for i := range def.E {
				def.E[i].T, def.E[i].U = roomyType(def.E[i].T), roomyType(def.E[i].U)
			}
		}
	}
	return p
}

// whole is all of a program, also what is beyond the lengths of its lists.
func whole(p []api.Module) string {
	var out string
	for _, m := range p[:cap(p)] {
		out += fmt.Sprintln(m.Name, m.Imports[:cap(m.Imports)], m.Sites[:cap(m.Sites)])
		for _, d := range m.Defs[:cap(m.Defs)] {
			out += fmt.Sprintln(d.Name, d.T[:cap(d.T)])
			for _, x := range d.E[:cap(d.E)] {
				out += fmt.Sprintln(x, x.T[:cap(x.T)], x.U[:cap(x.U)])
			}
		}
	}
	return out
}

// spoil writes into an assignment, also beyond the lengths of its lists.
func spoil(l []api.Choice) {
	for i, c := range l[:cap(l)] {
		for k := range c.T[:cap(c.T)] {
			c.T[:cap(c.T)][k] = api.Node{Kind: -1, Name: "spoiled", N: -1}
		}
		l[:cap(l)][i].Site = -1
	}
}

// R4 and R5: arguments stay as they are, answers are new memory, no two lists of which share any, and the same each time.
func TestMemory(t *testing.T) {
	p, n := program(t,
		"a", "def id = fun (x) -> x; def r: {p: ?} = {p = true}; def s: int -> int = fun (x) -> x; def q = s;",
		"m", "import a; def f: ? -> int = fun (x) -> case x of A y -> a!s y | B z -> (if a!r.p then z.c else [D = z.d]) 1 end; def g = rec h (x: {a: ?, b: ?}): ? -> ? = let y = x.a in fun (z) -> if y then z else h x 1 in {a = h {a = true, b = a!id}, b = a!q};")
	for _, s := range subsets(upTo(8)) {
		s = append(s, 9, 13, n)
		p := roomyProgram(p)
		s = roomy(s, 77, 78)
		before := whole(p)
		l, errno := infer.Solve(p, s)
		want := fmt.Sprint(l, errno)
		other, _ := infer.Solve(p, s)
		for i := range other { // one after the other, so that a list that is part of two choices is found
			spoil(other[i : i+1 : i+1])
			for _, c := range other[i+1:] {
				if slices.ContainsFunc(c.T, func(x api.Node) bool { return x.Kind < 0 }) {
					t.Errorf("%v: two choices share memory", s)
				}
			}
		}
		if fmt.Sprint(l, errno) != want || infer.Feasible(p, s) != (errno == api.OK) {
			t.Errorf("%v: %v %d, was %s", s, l, errno, want)
		}
		spoil(l)
		l, errno = infer.Solve(p, s)
		if fmt.Sprint(l, errno) != want || whole(p) != before || !slices.Equal(s[:len(s)+2][len(s):], []int{77, 78}) {
			t.Errorf("%v: %v %d, was %s", s, l, errno, want)
		}
	}
}
