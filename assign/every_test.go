package assign_test

import (
	"slices"
	"testing"

	"leaven/api"
	"leaven/assign"
	"leaven/ast"
	"leaven/prec"
	"leaven/ty"
)

// small is all plain types of up to most nodes that are made of ?, int, arrows, records and unions.
func small(most int) []api.Type {
	bySize := make([][]api.Type, most+1)
	for n := 1; n <= most; n++ {
		if n == 1 {
			bySize[1] = []api.Type{node(api.Dyn, 0), node(api.Int, 0), node(api.Record, 0)}
			continue
		}
		for _, x := range bySize[n-1] {
			bySize[n] = append(bySize[n], row(api.Record, x), row(api.Union, x))
		}
		for i := 1; i < n-1; i++ {
			for _, x := range bySize[i] {
				for _, y := range bySize[n-1-i] {
					bySize[n] = append(bySize[n], ty.Arrow(x, y), row(api.Record, x, y), row(api.Union, x, y))
				}
			}
		}
	}
	return slices.Concat(bySize...)
}

// row is the record or the union with these children.
func row(kind int, kids ...api.Type) api.Type {
	labels := []string{"A", "B"}
	if kind == api.Record {
		labels = []string{"a", "b"}
	}
	x, _ := ty.Row(kind, labels[:len(kids)], kids)
	return x
}

// number gives the ? of x the sites that are next, over and over again.
func number(x api.Type, sites ...int) api.Type {
	x = slices.Clone(x)
	at := 0
	for i := range x {
		if x[i].Kind == api.Dyn {
			x[i].N = sites[at%len(sites)]
			at++
		}
	}
	return x
}

// filled is the chapter's definition of filling, on trees.
func filled(x api.Type, l []api.Choice) api.Type {
	var labels []string
	var kids []api.Type
	for _, k := range ty.Kids(x, 0) {
		labels, kids = append(labels, x[k].Name), append(kids, filled(ty.Part(x, k), l))
	}
	switch x[0].Kind {
	case api.Dyn:
		for _, c := range l {
			if c.Site == x[0].N {
				return c.T
			}
		}
	case api.Arrow:
		return ty.Arrow(kids[0], kids[1])
	case api.Record, api.Union:
		x, _ = ty.Row(x[0].Kind, labels, kids)
	}
	return x
}

// assignments is all assignments of these types to some of the sites from 1 to n.
func assignments(n int, types []api.Type) [][]api.Choice {
	l := [][]api.Choice{nil}
	for site := 1; site <= n; site++ {
		for _, before := range slices.Clone(l) {
			for _, x := range types {
				l = append(l, append(slices.Clone(before), api.Choice{Site: site, T: x}))
			}
		}
	}
	return l
}

// kinds is the types that are assigned here: one with and one without children.
func kinds(t *testing.T) []api.Type {
	t.Helper()
	return []api.Type{of(t, "bool"), of(t, "int -> {a: unit}")}
}

// P11.1 (K1): small types that are filled by small assignments are as the chapter defines it.
func TestEveryType(t *testing.T) {
	l := assignments(3, kinds(t))
	for _, x := range small(5) {
		for _, sites := range [][]int{{1, 2, 3}, {3, 1}, {2, 2, 0, 4}} {
			y := number(x, sites...)
			was := slices.Clone(y)
			for _, c := range l {
				if got, want := assign.Type(y, c), filled(y, c); !slices.Equal(got, want) || !ty.Right(got) {
					t.Fatalf("%v with %v: %v, want %v", y, c, got, want)
				}
				if !slices.Equal(y, was) {
					t.Fatalf("%v has become %v", was, y)
				}
			}
		}
	}
}

// sitesOf is the sites of the ? of a type, in order.
func sitesOf(x api.Type) []int {
	var l []int
	for _, n := range x {
		if n.Kind == api.Dyn {
			l = append(l, n.N)
		}
	}
	return l
}

// rest is the sites without those that have choices.
func rest(sites []int, l []api.Choice) []int {
	return slices.DeleteFunc(slices.Clone(sites), func(s int) bool {
		return slices.ContainsFunc(l, func(c api.Choice) bool { return c.Site == s })
	})
}

// P11.2: what is filled is at least as precise; the sites that have choices are gone, and all others remain, in order.
func TestPrecisionOfTypes(t *testing.T) {
	l := assignments(3, kinds(t))
	for _, x := range small(5) {
		for _, sites := range [][]int{{1, 2, 3}, {2, 2, 0, 4}} {
			y := number(x, sites...)
			for _, c := range l {
				got := assign.Type(y, c)
				if want := rest(sitesOf(y), c); !prec.Below(got, y) || !slices.Equal(sitesOf(got), want) {
					t.Fatalf("%v with %v: %v, and %v, want %v", y, c, got, sitesOf(got), want)
				}
			}
		}
	}
}

// samples is programs with up to six sites.
func samples(t *testing.T) [][]api.Module {
	t.Helper()
	var l [][]api.Module
	for _, s := range [][]string{
		{"m", ""}, {"m", "def x: int = 1;"}, {"m", "def x = 1;"}, {"m", "def x = fun (x) -> (x: ? -> {a: ?});"}, {"m", "def f: ? -> {b: ?, a: int -> ?} = rec f (x) = f x in f;"}, {"m", "def x = let y: ? -> ? = 1 in [A = y];"},
		{"m", "def x: [A: ? | B: {c: ?}] = case (1: [A: ?]) of A x -> fun (x: ?) -> x | B x -> x end;"}, {"a", "def f = fun (x: ?) -> (x: ? -> int);", "b", "import a; def g = a!f;"},
		{"b", "import a; def g: {x: ?} = {x = a!f};", "a", "def f = fun (x: ?) -> x;", "c", "import b; import a; def h: int = (b!g.x a!f: ?);"},
	} {
		p, n := program(t, s...)
		if n > 6 {
			t.Fatal(s)
		}
		l = append(l, p)
	}
	return l
}

// P11.2 and P11.1 (K2): the same for programs; what is filled in different ways is at least as precise only if it says the same and more.
func TestPrecisionOfPrograms(t *testing.T) {
	l := assignments(6, kinds(t)[1:])
	for _, p := range samples(t) {
		for _, c := range l {
			q := assign.Program(p, c)
			sites := assign.Sites(p)
			if want := rest(sites, c); !slices.Equal(assign.Sites(q), want) || !assign.Below(q, p) || assign.Below(p, q) != (len(want) == len(sites)) {
				t.Fatalf("%s with %v: %v, want %v", printed(p), c, assign.Sites(q), want)
			}
			for _, d := range l {
				r := assign.Program(p, d)
				want := len(rest(rest(sites, c), d)) == len(rest(sites, c)) // all sites that d fills are filled by c, too, by the same type
				if assign.Below(q, r) != want {
					t.Fatalf("%s with %v and %v: %t", printed(p), c, d, !want)
				}
			}
		}
	}
}

// halves is the choices with and without an index in a set.
func halves(l []api.Choice, set int) (a, b []api.Choice) {
	for i, c := range l {
		if set>>i&1 == 1 {
			a = append(a, c)
		} else {
			b = append(b, c)
		}
	}
	return a, b
}

// P11.3: filling by one assignment and then by another one is filling by both at once, for types, expressions and programs.
func TestComposition(t *testing.T) {
	l := assignments(4, kinds(t))
	types := small(5)
	for _, c := range l {
		for set := range 1 << len(c) {
			a, b := halves(c, set)
			for i, x := range types {
				if i%16 != set { // each type is tried with one set; there are at most 16
					continue
				}
				y := number(x, 4, 2, 1, 3)
				if got, want := assign.Type(assign.Type(y, a), b), assign.Type(y, c); !slices.Equal(got, want) {
					t.Fatalf("%v with %v, then %v: %v, want %v", y, a, b, got, want)
				}
			}
		}
	}
	for _, p := range samples(t) {
		for _, c := range assignments(6, kinds(t)[1:]) {
			for set := range 1 << len(c) {
				a, b := halves(c, set)
				if got, want := assign.Program(assign.Program(p, a), b), assign.Program(p, c); !slices.EqualFunc(got, want, equal) {
					t.Fatalf("%s with %v, then %v: %s, want %s", printed(p), a, b, printed(got), printed(want))
				}
				for _, m := range p {
					for _, d := range m.Defs {
						if got, want := assign.Expr(assign.Expr(d.E, a), b), assign.Expr(d.E, c); !slices.EqualFunc(got, want, equalParts) {
							t.Fatalf("%s with %v, then %v: %s", ast.Print(d.E), a, b, ast.Print(got))
						}
					}
				}
			}
		}
	}
}
