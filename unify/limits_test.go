package unify_test

import (
	"fmt"
	"slices"
	"testing"

	"leaven/api"
	"leaven/term"
	"leaven/ty"
	"leaven/unify"
)

// v is the variable n.
func v(n int) api.Type {
	return api.Type{{Kind: api.Var, N: n}}
}

// sized is a type of n nodes that is not deep.
func sized(n int) api.Type {
	switch n {
	case 1:
		return of("int")
	case 2:
		return of("{a: int}")
	}
	return ty.Arrow(sized((n-1)/2), sized(n-1-(n-1)/2))
}

// deep is a type of depth n.
func deep(n int) api.Type {
	x := of("int")
	for range n - 1 {
		x = ty.Arrow(of("int"), x)
	}
	return x
}

// many is a record with n children, from the number from on, and with this tail, if it is not negative.
func many(from, n, tail int) api.Type {
	x := api.Type{{Kind: api.Record, N: n}}
	for i := range n {
		x = append(x, api.Node{Kind: api.Int, Name: fmt.Sprintf("l%03d", from+i)})
	}
	if tail >= 0 {
		x[0].N++
		x = append(x, api.Node{Kind: api.Tail, N: tail})
	}
	return x
}

// rowOf is {a: x, ..7}, which is one node and one level more than x without variables.
func rowOf(x api.Type) api.Type {
	row := slices.Concat(api.Type{{Kind: api.Record, N: 2}}, x, api.Type{{Kind: api.Tail, N: 7}})
	row[1].Name = "a"
	return row
}

// renamed is x, in which the variable n has the number of the Var l[n].
func renamed(x api.Type, l []api.Type) api.Type {
	x = slices.Clone(x)
	for i, y := range x {
		if y.Kind == api.Var || y.Kind == api.Tail {
			x[i].N = l[y.N][0].N
		}
	}
	return x
}

// P13.1 (M2): what a variable below next stands for is valid, without its variables. What a fresh one stands for, and what is passed, has no limits.
func TestLimits(t *testing.T) {
	row := rowOf
	for _, c := range []struct {
		name  string
		pairs [][2]api.Type
		valid bool
	}{
		{"depth", [][2]api.Type{{v(0), deep(api.MaxDeep)}}, true},
		{"depth", [][2]api.Type{{v(0), deep(api.MaxDeep + 1)}}, false},
		{"depth of a row", [][2]api.Type{{v(0), row(deep(api.MaxDeep - 1))}}, true},
		{"depth of a row", [][2]api.Type{{v(0), row(deep(api.MaxDeep))}}, false},
		{"depth, later", [][2]api.Type{{v(0), of("int -> '1")}, {v(1), deep(api.MaxDeep - 1)}}, true},
		{"depth, later", [][2]api.Type{{v(0), of("int -> '1")}, {v(1), deep(api.MaxDeep)}}, false},
		{"depth, earlier", [][2]api.Type{{v(1), deep(api.MaxDeep)}, {of("'1 -> int"), v(0)}}, false},
		{"depth of a ?", [][2]api.Type{{v(0), of("? -> ?")}, {v(0), ty.Arrow(of("?"), deep(api.MaxDeep))}}, false},
		{"depth of a tail", [][2]api.Type{{v(0), of("{b: int, ..1}")}, {of("{..1}"), row(deep(api.MaxDeep - 1))}}, true},
		{"depth of a tail", [][2]api.Type{{of("{..1}"), row(deep(api.MaxDeep))}}, false},
		{"nodes", [][2]api.Type{{v(0), sized(api.MaxNodes)}}, true},
		{"nodes", [][2]api.Type{{v(0), sized(api.MaxNodes + 1)}}, false},
		{"nodes of a row", [][2]api.Type{{row(sized(api.MaxNodes - 1)), v(0)}}, true},
		{"nodes of a row", [][2]api.Type{{row(sized(api.MaxNodes)), v(0)}}, false},
		{"nodes, twice", [][2]api.Type{{v(0), of("'1 -> '1")}, {v(1), sized(4999)}}, true}, // 9999
		{"nodes, twice", [][2]api.Type{{v(0), of("'1 -> '1")}, {v(1), sized(5000)}}, false},
		{"nodes, twice, earlier", [][2]api.Type{{v(1), sized(5000)}, {v(0), of("'1 -> '1")}}, false},
		{"nodes of two", [][2]api.Type{{v(0), of("'1 -> '2")}, {v(1), sized(5000)}, {v(2), sized(4999)}}, true},
		{"nodes of two", [][2]api.Type{{v(0), of("'1 -> '2")}, {v(2), sized(5000)}, {v(1), sized(5000)}}, false},
		{"nodes of a Var and a Tail", [][2]api.Type{{v(0), of("{b: '1, ..6}")}, {of("{..6}"), row(sized(4999))}, {v(1), sized(5000)}}, true},
		{"nodes of a Var and a Tail", [][2]api.Type{{v(0), of("{b: '1, ..6}")}, {of("{..6}"), row(sized(4999))}, {v(1), sized(5001)}}, false},
		{"nodes of a Var and a Tail", [][2]api.Type{{v(0), of("{b: '1, ..6}")}, {v(1), sized(5000)}, {of("{..6}"), row(sized(5000))}}, false},
		{"children", [][2]api.Type{{v(0), many(0, 50, -1)}}, true},
		{"children", [][2]api.Type{{v(0), many(0, 51, -1)}}, false},
		{"children and a Tail", [][2]api.Type{{v(0), many(0, 50, 1)}}, true},
		{"children and a Tail", [][2]api.Type{{v(0), many(0, 51, 1)}}, false},
		{"children of a Tail", [][2]api.Type{{of("{..1}"), many(0, 50, -1)}}, true},
		{"children of a Tail", [][2]api.Type{{of("{..1}"), many(0, 51, -1)}}, false},
		{"children of two rows, which no variable has", [][2]api.Type{{many(0, 30, 1), many(30, 30, 2)}}, true},
		{"children of two rows", [][2]api.Type{{many(0, 30, 1), many(30, 30, 2)}, {v(0), many(0, 30, 1)}}, false},
		{"children of two rows, earlier", [][2]api.Type{{v(0), many(0, 30, 1)}, {many(0, 30, 1), many(30, 30, 2)}}, false},
		{"children of two rows, in one more", [][2]api.Type{{v(0), of("int -> '3")}, {v(3), many(0, 30, 1)}, {many(0, 30, 1), many(30, 21, 2)}}, false},
		{"children of two rows", [][2]api.Type{{v(0), many(0, 30, 1)}, {many(0, 30, 1), many(30, 20, 2)}, {of("{..1}"), many(30, 20, 4)}}, true},
		{"children of three rows", [][2]api.Type{{v(0), many(0, 30, 1)}, {many(0, 30, 1), many(30, 20, 2)}, {of("{..1}"), many(30, 21, 4)}}, false},
		{"what is passed", [][2]api.Type{{of("?"), deep(1000)}, {deep(1000), deep(1000)}, {many(0, 100, 1), many(0, 100, 2)}, {sized(20000), sized(20000)}}, true},
		{"a union without children", [][2]api.Type{{v(0), of("[..1]")}, {of("[A: int | ..1]"), of("[A: int]")}}, true},
	} {
		s, errno := solved(8, c.pairs)
		if c.valid != (errno == api.OK) || !c.valid && errno != api.ErrType {
			t.Errorf("%s, which is %v: %d", c.name, c.valid, errno)
		}
		for n := 0; n < 8 && errno == api.OK; n++ {
			if x := s.Known(v(n)); !ty.Right(term.Ground(x)) {
				t.Errorf("%s: %s", c.name, ty.Print(x))
			}
		}
		s = unify.New(0)
		var fresh []api.Type
		for range 8 {
			fresh = append(fresh, s.Var())
		}
		for _, p := range c.pairs {
			if errno := s.Agree(renamed(p[0], fresh), renamed(p[1], fresh)); errno != api.OK {
				t.Errorf("%s, with fresh variables: %d", c.name, errno)
			}
		}
		s = unify.New(1) // one variable has limits, and is the first one
		fresh = []api.Type{v(0)}
		for range 8 {
			fresh = append(fresh, s.Var())
		}
		errno, valid := api.OK, true
		for _, p := range c.pairs {
			if errno == api.OK {
				errno = s.Agree(renamed(p[0], fresh), renamed(p[1], fresh))
			}
			valid = valid && !slices.Contains(append(term.Vars(p[0]), term.Vars(p[1])...), 0)
		}
		if (c.valid || valid) != (errno == api.OK) {
			t.Errorf("%s, with one variable below next: %d", c.name, errno)
		}
	}
}

// P13.1 (M2): types that share parts are not gone through again and again, however large they would be.
func TestShared(t *testing.T) {
	const most = 300
	s := unify.New(0)
	chain := func(down bool) []api.Type {
		var l []api.Type
		for range most + 1 {
			l = append(l, s.Var())
		}
		for i := range most {
			n := i
			if down {
				n = most - 1 - i
			}
			if errno := s.Agree(l[n], ty.Arrow(l[n+1], l[n+1])); errno != api.OK {
				t.Fatal(n, errno)
			}
		}
		return l
	}
	a, b := chain(false), chain(true)
	row := func(x api.Type) api.Type { // {a: x, b: x}, in which both are to be found only by going through a variable
		y, _ := ty.Row(api.Record, []string{"a", "b"}, []api.Type{x, x})
		return y
	}
	for _, p := range [][2]api.Type{{a[0], b[0]}, {row(a[0]), row(b[0])}, {a[0], a[0]}, {a[most], b[most]}, {b[most], of("int")}} {
		if errno := s.Agree(p[0], p[1]); errno != api.OK {
			t.Fatal(errno)
		}
	}
	if got := ty.Print(s.Known(a[most-2])); got != "(int -> int) -> int -> int" {
		t.Error(got)
	}
	if got := s.Known(b[most-15]); len(got) != 1<<16-1 {
		t.Error(len(got))
	}
	if got := s.Known(a[0]); len(got) != 0 { // there is no such list
		t.Error(len(got))
	}
	if errno := s.Agree(a[0], of("int -> ?")); errno != api.ErrType {
		t.Error(errno)
	}
}

// P13.1 (M2): the same where the parts that two types share do not stand beside each other.
func TestSharedCrosswise(t *testing.T) {
	const most = 200
	s := unify.New(0)
	var a, b []api.Type
	for range most + 1 {
		a, b = append(a, s.Var()), append(b, s.Var())
	}
	for n := range most {
		x, y := ty.Arrow(a[n+1], of("int")), ty.Arrow(b[n+1], b[n+1])
		if s.Agree(a[n], ty.Arrow(x, x)) != api.OK || s.Agree(b[n], ty.Arrow(y, of("int"))) != api.OK {
			t.Fatal(n)
		}
	}
	if errno := s.Agree(a[0], ty.Arrow(b[0], b[0])); errno != api.OK || !slices.Equal(s.Known(a[most]), s.Known(ty.Arrow(b[most], b[most]))) {
		t.Error(errno, s.Known(a[most]))
	}
}

// P13.1: what is wrong with fresh variables alone is wrong, too; and one that is below next may grow through fresh ones.
func TestFresh(t *testing.T) {
	s := unify.New(1)
	x, y := s.Var(), s.Var()
	if s.Agree(x, ty.Arrow(y, of("int"))) != api.OK || s.Agree(y, ty.Arrow(of("?"), x)) != api.ErrType {
		t.Error("a circle")
	}
	s = unify.New(1)
	x, y = s.Var(), s.Var()
	if s.Agree(x, y) != api.OK || s.Agree(v(0), ty.Arrow(x, of("?"))) != api.OK || s.Agree(y, deep(api.MaxDeep)) != api.ErrType {
		t.Error("too deep")
	}
	s = unify.New(1)
	x, y = s.Open(api.Record, "a", of("?")), s.Open(api.Record, "b", of("?"))
	if s.Agree(v(0), x) != api.OK || s.Agree(x, y) != api.OK || s.Agree(y, ty.Arrow(of("?"), of("?"))) != api.ErrType {
		t.Error("no record")
	}
	s = unify.New(1)
	x, y = s.Open(api.Record, "a", of("?")), s.Open(api.Record, "b", of("?"))
	if s.Agree(v(0), x) != api.OK || s.Agree(x, y) != api.OK || s.Agree(y, of("{a: ?, b: ?}")) != api.OK || s.Agree(v(0), of("{a: ?, b: ?, c: int}")) != api.ErrType {
		t.Error("too many")
	}
}

// R1: chains of many variables, however they are made.
func TestManyVariables(t *testing.T) {
	const most = 3000
	for _, down := range []bool{false, true} {
		s := unify.New(most + 1)
		for i := range most {
			n := i
			if down {
				n = most - 1 - i
			}
			if errno := s.Agree(v(n), v(n+1)); errno != api.OK {
				t.Fatal(errno)
			}
		}
		if s.Agree(v(most/2), of("int")) != api.OK || !slices.Equal(s.Known(v(0)), of("int")) || !slices.Equal(s.Known(v(most)), of("int")) {
			t.Error(down)
		}
		s = unify.New(0)
		var l []api.Type
		for range most + 1 {
			l = append(l, s.Var())
		}
		for i := range most {
			n := i
			if down {
				n = most - 1 - i
			}
			if errno := s.Agree(l[n], ty.Arrow(of("int"), l[n+1])); errno != api.OK {
				t.Fatal(errno)
			}
		}
		if len(s.Known(l[0])) != 2*most+1 || s.Agree(l[most], ty.Arrow(l[0], of("int"))) != api.ErrType {
			t.Error(down)
		}
	}
}
