package assign_test

import (
	"fmt"
	"slices"
	"testing"

	"leaven/api"
	"leaven/assign"
	"leaven/prec"
	"leaven/ty"
)

// keeper keeps the slices that make up arguments, with what lies beyond their length.
type keeper struct {
	all []any
}

// cut is a copy of l, with x beyond its length.
func cut[E any](k *keeper, l []E, x E) []E {
	long := append(slices.Clone(l), x)
	k.all = append(k.all, long)
	return long[:len(l)]
}

func (k *keeper) typ(x api.Type) api.Type {
	return cut(k, x, api.Node{Name: "beyond", N: 1})
}

func (k *keeper) expr(e api.Expr) api.Expr {
	e = cut(k, e, api.Part{Name: "beyond"})
	for i := range e {
		e[i].T, e[i].U = k.typ(e[i].T), k.typ(e[i].U)
	}
	return e
}

func (k *keeper) program(p []api.Module) []api.Module {
	p = cut(k, p, api.Module{Name: "beyond"})
	for i := range p {
		m := &p[i]
		m.Imports, m.Sites, m.Defs = cut(k, m.Imports, "beyond"), cut(k, m.Sites, api.Site{From: 99}), cut(k, m.Defs, api.Def{Name: "beyond"})
		for j := range m.Defs {
			m.Defs[j].T, m.Defs[j].E = k.typ(m.Defs[j].T), k.expr(m.Defs[j].E)
		}
	}
	return p
}

func (k *keeper) choices(l []api.Choice) []api.Choice {
	l = cut(k, l, api.Choice{Site: 99})
	for i := range l {
		l[i].T = k.typ(l[i].T)
	}
	return l
}

// spoil writes into all that a program consists of, also beyond the length of its slices.
func spoil(p []api.Module) {
	for i := range p {
		m := &p[i]
		for _, d := range m.Defs[:cap(m.Defs)] {
			spoilType(d.T)
			spoilExpr(d.E)
		}
		clear(m.Imports[:cap(m.Imports)])
		clear(m.Sites[:cap(m.Sites)])
		clear(m.Defs[:cap(m.Defs)])
	}
	clear(p[:cap(p)])
}

func spoilExpr(e api.Expr) {
	for _, part := range e[:cap(e)] {
		spoilType(part.T)
		spoilType(part.U)
	}
	clear(e[:cap(e)])
}

func spoilType(x api.Type) {
	for i := range x[:cap(x)] {
		x[:cap(x)][i] = api.Node{Kind: -1, Name: "spoiled", N: -1}
	}
}

// R4 and R5: arguments stay as they are, also beyond the length of a slice; answers are new memory, and the same each time.
func TestMemory(t *testing.T) {
	const text = "import a; def x: ? -> ? = rec f (x: {a: ?, b: ?}): ? = f x in f; def y = [A = a!x: [A: ?]]; def z: int = (1: ?);"
	q, _ := program(t, "b", text, "a", "def x = 1;")
	var k keeper
	p := k.program(q)
	l := k.choices(choices(t, 1, "int", 3, "int -> int", 4, "{a: int}", 5, "bool", 8, "[A: int]"))
	e, x := k.expr(q[1].Defs[0].E), k.typ(number(of(t, "? -> {a: ?, b: int -> ?}"), 3, 7, 5))
	was := fmt.Sprint(k.all)
	var answers [2]string
	for i := range answers {
		r, f, y := assign.Program(p, l), assign.Expr(e, l), assign.Type(x, l)
		whole, same, sites := assign.Program(p, nil), assign.Type(x, nil), assign.Sites(p)
		answers[i] = fmt.Sprint(r, f, y, whole, same, sites, assign.Right(l), assign.Below(p, p), assign.Below(r, p), assign.Below(p, r))
		spoil(r)
		spoilExpr(f)
		spoilType(y)
		spoil(whole)
		spoilType(same)
		clear(sites[:cap(sites)])
		if got := fmt.Sprint(k.all); got != was {
			t.Fatalf("%s, was %s", got, was)
		}
	}
	if answers[0] != answers[1] {
		t.Errorf("%s, then %s", answers[0], answers[1])
	}
}

// R4: no two lists of one answer share memory, also where one choice fills many types.
func TestMemoryWithin(t *testing.T) {
	part := api.Part{T: sited(t, "?", 1), U: sited(t, "?", 1)}
	p := []api.Module{{Defs: []api.Def{{T: part.T, E: api.Expr{part, part}}, {T: part.T, E: api.Expr{part}}}}, {Defs: []api.Def{{T: part.T}}}}
	r := assign.Program(p, choices(t, 1, "int -> int"))
	var l []api.Type
	for _, m := range r {
		for _, d := range m.Defs {
			l = append(l, d.T)
			for _, part := range d.E {
				l = append(l, part.T, part.U)
			}
		}
	}
	if len(l) != 9 {
		t.Fatal(len(l))
	}
	for i, x := range l {
		spoilType(x)
		for _, y := range l[i+1:] {
			if ty.Print(y) != "int -> int" {
				t.Fatalf("%d: %v", i, y)
			}
		}
	}
}

// P11.1 (K1, K2): what is filled may be deeper than valid types, and have more nodes; Sites and Below accept it like any other type.
func TestLarge(t *testing.T) {
	under := func(n int) api.Type { // n Arrows from ?, and then int
		var x api.Type
		for i := range n {
			x = append(x, api.Node{Kind: api.Arrow}, api.Node{N: i + 1})
		}
		return append(x, api.Node{Kind: api.Int})
	}
	x := under(api.MaxDeep - 1)
	var l []api.Choice
	for i := 1; i < api.MaxDeep; i += 2 {
		l = append(l, api.Choice{Site: i, T: [...]api.Type{arrows(api.MaxDeep - 1), wide(2500)}[i/2%2]})
	}
	if !ty.Right(x) || !assign.Right(l) {
		t.Fatal("not at the limits")
	}
	y := assign.Type(x, l)
	if want := filled(x, l); !slices.Equal(y, want) || ty.Right(y) || len(y) <= api.MaxNodes || !prec.Below(y, x) {
		t.Errorf("%d nodes, want %d", len(y), len(want))
	}
	p := []api.Module{{Name: "m", Defs: []api.Def{{Name: "d", T: x, E: api.Expr{{Kind: api.As, T: x}, {Kind: api.Name, Name: "x"}}}}}}
	q := assign.Program(p, l)
	if sites := assign.Sites(q); len(sites) != api.MaxDeep/2-1 || sites[0] != 2 || !assign.Below(q, p) || assign.Below(p, q) || !assign.Below(q, q) {
		t.Errorf("%v", sites)
	}
	again := assign.Program(q, choices(t, 2, "int", 98, "int"))
	if sites := assign.Sites(again); len(sites) != api.MaxDeep/2-3 || !assign.Below(again, q) || assign.Below(q, again) {
		t.Errorf("%v", sites)
	}
}
