package check_test

import (
	"fmt"
	"math"
	"slices"
	"strconv"
	"testing"

	"leaven/api"
	"leaven/ast"
	"leaven/check"
	"leaven/ty"
)

// nested is n times Fun around e; each Fun binds its own name.
func nested(n int, x api.Type, e api.Expr) api.Expr {
	var l api.Expr
	for i := range n {
		l = append(l, api.Part{Kind: api.Fun, Bind: "x" + strconv.Itoa(i), T: x})
	}
	return append(l, e...)
}

// arrows is n times an Arrow from x, and then to y.
func arrows(n int, x, y api.Type) api.Type {
	var l api.Type
	for range n {
		l = slices.Concat(l, api.Type{{Kind: api.Arrow}}, x)
	}
	return append(l, y...)
}

// P10.1 (J1): types that arise in between may be deeper than valid types, and have more nodes.
func TestLargeTypes(t *testing.T) {
	integer := of(t, "int")
	deep := arrows(api.MaxDeep-1, integer, integer)
	if !ty.Right(deep) || ty.Right(ty.Arrow(integer, deep)) {
		t.Fatal("not at the limit")
	}
	var kids []api.Type
	var labels []string
	for i := range 50 {
		labels, kids = append(labels, fmt.Sprintf("l%02d", i)), append(kids, arrows(99, integer, integer))
	}
	wide, _ := ty.Row(api.Record, labels, kids)
	env := []api.Bound{{Name: "deep", T: deep}, {Name: "wide", T: wide}, {Name: "d", T: of(t, "?")}}
	rows, _ := ty.Row(api.Record, []string{"a", "b"}, []api.Type{wide, wide})
	for _, c := range []struct {
		e    api.Expr
		want api.Type
	}{
		{expr(t, "deep"), deep}, {nested(99, integer, expr(t, "deep")), arrows(99, integer, deep)}, {expr(t, "{a = wide, b = wide}"), rows}, {expr(t, "{a = wide, b = wide}.b"), wide},
		{expr(t, "if d then {a = d, b = wide} else {a = wide, b = d}"), rows}, {expr(t, "if d then fun (x: int) -> deep else fun (x) -> d"), ty.Arrow(integer, deep)}, {expr(t, "(fun (x: int) -> deep) 1"), deep},
		{expr(t, "let x = {a = wide, b = wide} in x"), of(t, "?")}, {expr(t, "d (fun (x: int) -> deep)"), of(t, "?")}, {expr(t, "(fun (x: int) -> deep: int -> ?)"), of(t, "int -> ?")}, {append(api.Expr{{Kind: api.Cast, T: ty.Arrow(integer, deep), U: of(t, "?")}}, expr(t, "fun (x: int) -> deep")...), of(t, "?")},
	} {
		x, at, errno := check.Expr(env, c.e)
		if !ty.Same(x, c.want) || at != 0 || errno != api.OK {
			t.Errorf("%.99s: %.99s at %d: %d", ast.Print(c.e), ty.Print(x), at, errno)
		}
	}
	checkWrong(t, env, expr(t, "if d then fun (x: int) -> deep else fun (x: int) -> fun (x: bool) -> d"), "deep", 0, api.ErrType)
	checkWrong(t, env, expr(t, "deep {a = wide, b = wide}"), "wide", 0, api.ErrType)
}

// P10.1 (J1): expressions at the limits, and beyond them as casts make them.
func TestLargeExpressions(t *testing.T) {
	integer, unknown := of(t, "int"), of(t, "?")
	e := nested(99, unknown, expr(t, "x0 + x98"))
	if x, at, errno := check.Expr(nil, e); !ty.Same(x, arrows(99, unknown, integer)) || at != 0 || errno != api.OK {
		t.Errorf("%s at %d: %d", ty.Print(x), at, errno)
	}
	checkWrong(t, nil, nested(99, unknown, expr(t, "x0 + x99")), "x99", 101, api.ErrName)
	checkWrong(t, nil, nested(99, of(t, "bool"), expr(t, "1 + x98")), "x98", 99, api.ErrType)
	there, back := api.Part{Kind: api.Cast, T: integer, U: unknown}, api.Part{Kind: api.Cast, T: unknown, U: integer}
	casts := slices.Repeat(api.Expr{back, there}, 1000)
	if x, at, errno := check.Expr(nil, append(slices.Clone(casts), expr(t, "1")...)); !ty.Same(x, integer) || at != 0 || errno != api.OK {
		t.Errorf("%s at %d: %d", ty.Print(x), at, errno)
	}
	checkWrong(t, nil, append(slices.Clone(casts), expr(t, "true")...), "casts", 1999, api.ErrType)
	var sum api.Expr
	for range 20000 {
		sum = append(sum, expr(t, "1 + 1")[:2]...)
	}
	if x, at, errno := check.Expr(nil, append(sum, expr(t, "2")...)); !ty.Same(x, integer) || at != 0 || errno != api.OK {
		t.Errorf("%s at %d: %d", ty.Print(x), at, errno)
	}
	checkWrong(t, nil, append(sum, expr(t, "z")...), "sum", 40000, api.ErrName)
	checkWrong(t, nil, append(sum, expr(t, "true")...), "sum", 39998, api.ErrType)
}

// P10.1 (J1): the greatest numbers of branches and of labels.
func TestWide(t *testing.T) {
	var tags, labels []string
	var kids []api.Type
	e := api.Expr{{Kind: api.Case, Many: 50}, {Kind: api.Name, Name: "u"}}
	rows := api.Expr{{Kind: api.Rows, Many: 50}}
	for i := range 50 {
		tags, labels = append(tags, fmt.Sprintf("T%02d", i)), append(labels, fmt.Sprintf("l%02d", i))
		x := of(t, "?")
		if i == 7 {
			x = of(t, "int")
		}
		kids = append(kids, x)
		e = append(e, api.Part{Kind: api.Branch, Label: fmt.Sprintf("T%02d", 49-i), Bind: "x"}, api.Part{Kind: api.Name, Name: "x"})
		rows = append(rows, api.Part{Kind: api.Name, Label: fmt.Sprintf("l%02d", (i+42)%50), Name: "n"})
	}
	u, _ := ty.Row(api.Union, tags, kids)
	env := []api.Bound{{Name: "u", T: u}, {Name: "n", T: of(t, "int")}}
	if x, at, errno := check.Expr(env, e); !ty.Same(x, of(t, "int")) || at != 0 || errno != api.OK {
		t.Errorf("%s at %d: %d", ty.Print(x), at, errno)
	}
	r, _ := ty.Row(api.Record, labels, slices.Repeat([]api.Type{of(t, "int")}, 50))
	if x, at, errno := check.Expr(env, rows); !ty.Same(x, r) || at != 0 || errno != api.OK {
		t.Errorf("%s at %d: %d", ty.Print(x), at, errno)
	}
	e[100].Label = "T99"
	checkWrong(t, env, e, "T99", 0, api.ErrType)
}

// R3, R4 and R5: arguments stay as they are, also beyond their lengths; a type is new memory, and the same each time.
func TestMemory(t *testing.T) {
	beyond := func(x api.Type) api.Type { return append(slices.Clone(x), api.Node{Kind: 77})[:len(x)] }
	env := append(bounds(t, gradualNames), api.Bound{Name: "beyond"})
	env = env[:len(env)-1]
	for i := range env {
		env[i].T = beyond(env[i].T)
	}
	for _, s := range []string{"d", "1", "fun (x) -> x", "if d then r else r", "case u of A x -> d | B x -> x end", "let y: int = 1 in y", "rec g (y) = y in g", "(d: ? -> ?)", "[A = 1: [A: ?]]", "{a = 1}", "h d", "r.b", "f", "z", "1 2"} {
		e := append(expr(t, s), api.Part{Kind: -1})
		e = e[:len(e)-1]
		for i := range e {
			e[i].T, e[i].U = beyond(e[i].T), beyond(e[i].U)
		}
		module := []api.Module{{Name: "m", Defs: []api.Def{{Name: "x", T: beyond(of(t, "?")), E: e}}}}
		told := func() string {
			text := fmt.Sprint(module, e[:len(e)+1], env[:len(env)+1])
			for _, b := range env {
				text += fmt.Sprint(b.T[:len(b.T)+1])
			}
			for _, p := range e {
				text += fmt.Sprint(p.T[:len(p.T)+1], p.U[:len(p.U)+1])
			}
			return text
		}
		was := told()
		x, at, errno := check.Expr(env, e)
		m, d, part, wrong := check.Program(module)
		want := slices.Clone(x)
		for i := range x[:cap(x)] {
			x[:cap(x)][i] = api.Node{Kind: 99}
		}
		if told() != was {
			t.Errorf("%s: changed", s)
		}
		y, at2, errno2 := check.Expr(env, e)
		m2, d2, part2, wrong2 := check.Program(module)
		if !slices.Equal(y, want) || at2 != at || errno2 != errno || m2 != m || d2 != d || part2 != part || wrong2 != wrong {
			t.Errorf("%s: %v, then %v", s, want, y)
		}
	}
}

// Whatever is passed, calls end, and do not panic.
func TestAnyParts(t *testing.T) {
	var parts api.Expr
	for kind := -1; kind <= api.Cast+1; kind++ {
		for _, n := range []int{math.MinInt, 0, 2, math.MaxInt} {
			parts = append(parts, api.Part{Kind: kind, Many: n}, api.Part{Kind: kind, Label: "a", Name: "x", Bind: "x", Many: n, Num: -1, T: api.Type{{Kind: api.Arrow}}, U: api.Type{{Kind: 99}}},
				api.Part{Kind: kind, Label: "A", Name: "A", Bind: "x", Many: n, T: api.Type{{Kind: api.Union, N: math.MaxInt}, {}}, U: api.Type{{Kind: api.Record, N: -1}, {}}})
		}
	}
	envs := [][]api.Bound{nil, {{Name: "x"}}, {{Name: "x", T: api.Type{{}}}}, {{Name: "x", T: api.Type{{Kind: api.Union, N: 3}}}}}
	call := func(e api.Expr) {
		for _, env := range envs {
			x, _, errno := check.Expr(env, e)
			if errno != api.OK && len(x) > 0 {
				t.Fatalf("%v: %v %d", e, x, errno)
			}
			check.Program([]api.Module{{Name: "m", Imports: []string{"m", "n"}, Defs: []api.Def{{Name: "x", E: e}, {Name: "x", T: api.Type{{Kind: api.Union, N: 2}}, E: e}}}})
		}
	}
	call(nil)
	for _, a := range parts {
		call(api.Expr{a})
		for _, b := range parts {
			call(api.Expr{a, b})
			call(api.Expr{a, b, a, {Kind: api.Name, Name: "x"}})
			call(api.Expr{a, {Kind: api.Name, Name: "x"}, b, b})
		}
	}
	for _, kind := range []int{api.Fun, api.App, api.Rec, api.If, api.Op, api.Branch, api.Get} {
		call(slices.Repeat(api.Expr{{Kind: kind}}, 1<<11))
	}
	for _, e := range []api.Expr{nil, {}, {{Kind: api.Fun, Bind: "x", T: of(t, "int")}}, {{Kind: api.App}, {Kind: api.Rows}}, {{Kind: -1}}, {{Kind: api.Cast + 1}}} {
		if x, at, errno := check.Expr(nil, e); len(x) != 0 || at != 0 || errno != api.ErrArg {
			t.Errorf("%v: %v %d %d", e, x, at, errno)
		}
	}
}
