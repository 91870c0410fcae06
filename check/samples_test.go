package check_test

import (
	"slices"
	"testing"

	"leaven/api"
	"leaven/ast"
)

// frames are what samples are made of: types that stand in them, and expressions of one part.
type frames struct {
	types  []api.Type
	leaves []api.Expr
	tags   [][]string // those of the branches of a Case
}

func types(t *testing.T, l ...string) []api.Type {
	t.Helper()
	var out []api.Type
	for _, s := range l {
		out = append(out, of(t, s))
	}
	return out
}

func leaves(t *testing.T, l ...string) []api.Expr {
	t.Helper()
	var out []api.Expr
	for _, s := range l {
		out = append(out, expr(t, s))
	}
	return out
}

// labelled is e with a label.
func labelled(label string, e api.Expr) api.Expr {
	e = slices.Clone(e)
	e[0].Label = label
	return e
}

// join is a part with its children.
func join(p api.Part, kids ...api.Expr) api.Expr {
	return slices.Concat(append([]api.Expr{{p}}, kids...)...)
}

// match is a Case of e, whose branches bind x and have these tags and children, the latter over and over again.
func match(e api.Expr, tags []string, kids ...api.Expr) api.Expr {
	l := []api.Expr{e}
	for i, tag := range tags {
		l = append(l, join(api.Part{Kind: api.Branch, Label: tag, Bind: "x"}, kids[i%len(kids)]))
	}
	return join(api.Part{Kind: api.Case, Many: len(tags)}, l...)
}

// withOne are the expressions that have x as their only child, or as a child of their only branch.
func (f frames) withOne(x api.Expr) []api.Expr {
	l := []api.Expr{
		join(api.Part{Kind: api.Rows, Many: 1}, labelled("a", x)), join(api.Part{Kind: api.Get, Name: "a"}, x), join(api.Part{Kind: api.Get, Name: "b"}, x),
	}
	for i, t := range f.types {
		u := f.types[(i+1)%len(f.types)]
		l = append(l, join(api.Part{Kind: api.Fun, Bind: "x", T: t}, x), join(api.Part{Kind: api.Inject, Name: "A", T: t}, x), join(api.Part{Kind: api.As, T: t}, x),
			join(api.Part{Kind: api.Cast, Num: 1, T: t, U: u}, x), join(api.Part{Kind: api.Cast, Num: 2, T: t, U: t}, x), join(api.Part{Kind: api.Cast, T: u, U: t}, x))
	}
	return l
}

// withTwo are the expressions that have the children x and y.
func (f frames) withTwo(x, y api.Expr) []api.Expr {
	l := []api.Expr{
		join(api.Part{Kind: api.App}, x, y), join(api.Part{Kind: api.Rows, Many: 2}, labelled("b", x), labelled("a", y)),
	}
	for _, op := range []string{"+", "<", "&&", "++"} {
		l = append(l, join(api.Part{Kind: api.Op, Name: op}, x, y))
	}
	for i, t := range f.types {
		u := f.types[(i*3+2)%len(f.types)]
		l = append(l, join(api.Part{Kind: api.Let, Bind: "x", T: t}, x, y), join(api.Part{Kind: api.Rec, Name: "f", Bind: "x", T: t, U: u}, x, y), join(api.Part{Kind: api.Rec, Name: "x", Bind: "x", T: u, U: t}, x, y))
	}
	for _, tags := range f.tags {
		l = append(l, match(x, tags, y))
	}
	return l
}

// withThree are the expressions that have the children x, y and z.
func (f frames) withThree(x, y, z api.Expr) []api.Expr {
	l := []api.Expr{join(api.Part{Kind: api.If}, x, y, z)}
	for _, tags := range f.tags {
		if len(tags) > 1 {
			l = append(l, match(x, tags, y, z))
		}
	}
	return l
}

// all are many expressions: each form with each choice of leaves, and forms in which some of those stand.
func (f frames) all() []api.Expr {
	var small []api.Expr
	for _, x := range f.leaves {
		small = append(small, f.withOne(x)...)
		for _, y := range f.leaves {
			small = append(small, f.withTwo(x, y)...)
			for _, z := range f.leaves {
				small = append(small, f.withThree(x, y, z)...)
			}
		}
	}
	l := slices.Concat(f.leaves, small)
	for i, x := range small {
		y, z := f.leaves[i%len(f.leaves)], small[(i*7+11)%len(small)]
		l = append(l, f.withOne(x)[i%9], f.withOne(x)[(i/9)%9])
		for k, some := range [][]api.Expr{f.withTwo(x, y), f.withTwo(y, x), f.withTwo(z, x), f.withThree(x, y, z), f.withThree(y, z, x), f.withThree(z, x, y)} {
			l = append(l, some[(i+k)%len(some)], some[(i*5+k+1)%len(some)])
		}
	}
	return l
}

// checkValid checks that the samples are expressions.
func checkValid(t *testing.T, l []api.Expr) {
	t.Helper()
	for _, e := range l {
		if !ast.Right(e) {
			t.Fatalf("%v", e)
		}
	}
}

const gradualNames = "d: ?; n: int; f: int -> ?; h: ? -> int; r: {a: int, b: ?}; u: [A: int | B: ?]; x: bool"

// gradual are frames with types that may be partially known.
func gradual(t *testing.T) frames {
	return frames{
		types:  types(t, "?", "int", "bool", "? -> int", "{a: ?}", "[A: ? | B: int]", "? -> ?"),
		leaves: leaves(t, "1", "true", `"s"`, "d", "f", "h", "r", "u", "x", "z", "[A = 1: [A: int | B: ?]]"),
		tags:   [][]string{{"A"}, {"A", "B"}, {"B", "A"}, {"C", "A", "B"}},
	}
}

const staticNames = "n: int; f: int -> int; r: {a: int, b: bool}; u: [A: int | B: bool]; x: int; s: string"

// static are frames in which all types are static.
func static(t *testing.T) frames {
	return frames{
		types:  types(t, "int", "bool", "string", "int -> int", "{a: int}", "[A: int | B: bool]", "[A: int]"),
		leaves: leaves(t, "1", "true", "s", "n", "f", "r", "u", "x", "fun (y: bool) -> y", "[A = 1: [A: int]]"),
		tags:   [][]string{{"A"}, {"B", "A"}},
	}
}
