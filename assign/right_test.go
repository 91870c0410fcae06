package assign_test

import (
	"fmt"
	"slices"
	"testing"

	"leaven/api"
	"leaven/assign"
)

// arrows is a type of depth n+1: n times an Arrow from int.
func arrows(n int) api.Type {
	return append(slices.Repeat(api.Type{{Kind: api.Arrow}, {Kind: api.Int}}, n), api.Node{Kind: api.Int})
}

// wide is a type of depth 3 with n nodes, where n is at least 52 and at most 2551.
func wide(n int) api.Type {
	x := api.Type{{Kind: api.Record, N: 50}}
	for i := range 50 {
		many := (n-51)/50 + min(1, max(0, (n-51)%50-i))
		x = append(x, api.Node{Kind: api.Record, Name: fmt.Sprintf("l%02d", i), N: many})
		for k := range many {
			x = append(x, api.Node{Kind: api.Int, Name: fmt.Sprintf("l%02d", k)})
		}
	}
	return x
}

// node is a type that is one node.
func node(kind, n int) api.Type {
	return api.Type{{Kind: kind, N: n}}
}

// right is types that may be chosen.
func right(t *testing.T) []api.Type {
	var l []api.Type
	for _, s := range []string{"int", "bool", "string", "unit", "int -> int", "(int -> bool) -> unit", "{}", "{a: int, b: {c: bool}}", "[A: int]", "[A: int -> int | B: {}]"} {
		l = append(l, of(t, s))
	}
	return append(l, arrows(api.MaxDeep-1), wide(2500))
}

// wrong is types that may not be chosen: they are not valid, not plain or not static.
func wrong(t *testing.T) []api.Type {
	var l []api.Type
	for _, s := range []string{"?", "? -> int", "int -> ?", "{a: ?}", "[A: int | B: {b: ?}]", "{a: int, b: int -> int -> ?}"} {
		l = append(l, of(t, s))
	}
	return append(l,
		nil, node(api.Dyn, 0), node(api.Var, 0), node(api.Var, 3), node(api.Tail, 0), node(api.Tail, 1), node(api.Int, 1), node(api.Record, 1), node(api.Record, 51), node(api.Union, 0), node(api.Arrow, 0), node(-1, 0), node(10, 0),
		api.Type{{Kind: api.Int, Name: "a"}}, api.Type{{Kind: api.Int}, {Kind: api.Int}}, api.Type{{Kind: api.Arrow}, {Kind: api.Int}}, api.Type{{Kind: api.Arrow}, {Kind: api.Int}, {Kind: api.Var, N: 1}},
		api.Type{{Kind: api.Record, N: 1}, {Kind: api.Tail, N: 1}}, api.Type{{Kind: api.Union, N: 2}, {Kind: api.Int, Name: "A"}, {Kind: api.Tail, N: 1}}, api.Type{{Kind: api.Record, N: 1}, {Kind: api.Int, Name: "A"}},
		api.Type{{Kind: api.Record, N: 2}, {Kind: api.Int, Name: "b"}, {Kind: api.Int, Name: "a"}}, api.Type{{Kind: api.Record, N: 2}, {Kind: api.Int, Name: "a"}, {Kind: api.Int, Name: "a"}}, arrows(api.MaxDeep),
	)
}

// P11.1 (K1): which types a choice may have.
func TestRightTypes(t *testing.T) {
	for _, x := range right(t) {
		if l := []api.Choice{{Site: 1, T: x}}; !assign.Right(l) {
			t.Errorf("%.99v", l)
		}
	}
	for _, x := range wrong(t) {
		if l := []api.Choice{{Site: 1, T: x}}; assign.Right(l) {
			t.Errorf("%.99v", l)
		}
		for i := range 3 { // at any place of the list
			l := choices(t, 3, "int", 5, "bool", 9, "unit")
			l[i].T = x
			if assign.Right(l) {
				t.Errorf("%.99v", l)
			}
		}
	}
}

// P11.1 (K1): a type with MaxNodes nodes may be chosen, and one with more may not.
func TestRightLarge(t *testing.T) {
	for _, more := range []int{0, 1} {
		x := api.Type{{Kind: api.Record, N: 4}}
		for i := range 4 {
			part := wide(2500)
			if i == 3 {
				part = wide(2499 + more)
			}
			part[0].Name = fmt.Sprintf("a%d", i)
			x = append(x, part...)
		}
		if len(x) != api.MaxNodes+more {
			t.Fatal(len(x))
		}
		if got := assign.Right([]api.Choice{{Site: 1, T: x}}); got != (more == 0) {
			t.Errorf("%d: %t", len(x), got)
		}
	}
}

// P11.1 (K1): sites are at least 1, and strictly ascending; there may be any number of them.
func TestRightSites(t *testing.T) {
	all := []int{-1 << 63, -2, -1, 0, 1, 2, 3, 60, 61, 1<<63 - 1}
	var sites []int
	var try func(left int)
	try = func(left int) {
		var l []api.Choice
		want := true
		for i, s := range sites {
			l = append(l, api.Choice{Site: s, T: of(t, "int")})
			want = want && s >= 1 && (i == 0 || sites[i-1] < s)
		}
		if got := assign.Right(l); got != want {
			t.Errorf("%v: %t", sites, got)
		}
		for k := 0; left > 0 && k < len(all); k++ {
			sites = append(sites, all[k])
			try(left - 1)
			sites = sites[:len(sites)-1]
		}
	}
	try(4)
	var many []api.Choice
	for i := range 1000 {
		many = append(many, api.Choice{Site: i + 1, T: of(t, "int")})
	}
	if !assign.Right(many) || assign.Right(append(many, many[999])) || !assign.Right([]api.Choice{}) {
		t.Error("many, or none")
	}
}
