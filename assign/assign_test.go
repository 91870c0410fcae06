package assign_test

import (
	"slices"
	"strings"
	"testing"

	"leaven/api"
	"leaven/assign"
	"leaven/lex"
	"leaven/parse"
	"leaven/scope"
	"leaven/tread"
)

// of is the type of a text; its ? have the sites 1, 2 and so on.
func of(t *testing.T, s string) api.Type {
	t.Helper()
	tokens, _, e := lex.Tokens(s)
	if e != api.OK {
		t.Fatalf("%s: %d", s, e)
	}
	x, _, e := tread.Of(tokens)
	if e != api.OK {
		t.Fatalf("%s: %d", s, e)
	}
	return x
}

// sited is the type of a text, whose ? have these sites.
func sited(t *testing.T, s string, sites ...int) api.Type {
	t.Helper()
	x := of(t, s)
	for i, n := range x {
		if n.Kind == api.Dyn {
			x[i].N, sites = sites[0], sites[1:]
		}
	}
	return x
}

// choices is a list of choices: a site, and the text of a type, over and over again.
func choices(t *testing.T, l ...any) []api.Choice {
	t.Helper()
	var out []api.Choice
	for i := 0; i < len(l); i += 2 {
		out = append(out, api.Choice{Site: l[i].(int), T: of(t, l[i+1].(string))})
	}
	return out
}

// program is the program of names and texts, and how many sites it has.
func program(t *testing.T, l ...string) ([]api.Module, int) {
	t.Helper()
	var read []api.Module
	for i := 0; i < len(l); i += 2 {
		m, at, e := parse.Parse(l[i], l[i+1])
		if e != api.OK {
			t.Fatalf("%s: %d at %d", l[i+1], e, at)
		}
		read = append(read, m)
	}
	p, n, at, e := scope.Program(read)
	if e != api.OK {
		t.Fatalf("%v: %d at %d", l, e, at)
	}
	return p, n
}

// printed is a program, printed.
func printed(p []api.Module) string {
	var b strings.Builder
	for _, m := range p {
		b.WriteString(m.Name + ": " + parse.Print(m))
	}
	return b.String()
}

// equal tells whether modules are the same with all their sites.
func equal(a, b api.Module) bool {
	return a.Name == b.Name && slices.Equal(a.Imports, b.Imports) && slices.Equal(a.Sites, b.Sites) && slices.EqualFunc(a.Defs, b.Defs, func(c, d api.Def) bool {
		return c.Name == d.Name && slices.Equal(c.T, d.T) && slices.EqualFunc(c.E, d.E, equalParts)
	})
}

func equalParts(p, q api.Part) bool {
	return p.Kind == q.Kind && p.Label == q.Label && p.Name == q.Name && p.Bind == q.Bind && p.Many == q.Many && p.Num == q.Num && slices.Equal(p.T, q.T) && slices.Equal(p.U, q.U)
}

// P11.1 (K1), and the chapter's example: types that are filled.
func TestType(t *testing.T) {
	for _, c := range []struct {
		x    api.Type
		l    []api.Choice
		want api.Type
	}{
		{sited(t, "? -> ?", 1, 2), choices(t, 2, "int"), sited(t, "? -> int", 1)},
		{sited(t, "? -> ?", 1, 2), choices(t, 1, "int"), sited(t, "int -> ?", 2)},
		{sited(t, "? -> ?", 1, 2), choices(t, 1, "int", 2, "bool"), of(t, "int -> bool")},
		{sited(t, "? -> ?", 2, 1), choices(t, 1, "int", 2, "bool"), of(t, "bool -> int")},
		{sited(t, "? -> ?", 3, 3), choices(t, 3, "{a: unit}"), of(t, "{a: unit} -> {a: unit}")},
		{sited(t, "?", 1), choices(t, 1, "int -> int"), of(t, "int -> int")},
		{sited(t, "? -> ? -> ?", 4, 5, 6), choices(t, 4, "int -> bool", 6, "int -> unit"), sited(t, "(int -> bool) -> ? -> int -> unit", 5)},
		{sited(t, "?", 60), choices(t, 60, "string"), of(t, "string")}, {sited(t, "?", 1<<63-1), choices(t, 7, "int", 1<<63-1, "bool"), of(t, "bool")},
		{sited(t, "{a: ?, b: {c: ?, d: int}, e: ?}", 1, 2, 3), choices(t, 1, "[A: int | B: bool]", 2, "{}", 3, "int"), of(t, "{a: [A: int | B: bool], b: {c: {}, d: int}, e: int}")},
		{sited(t, "[A: ? | B: ? -> ? | C: {a: ?}]", 4, 3, 2, 1), choices(t, 1, "unit", 2, "int", 3, "{x: int, y: [Z: int]}", 4, "bool -> bool"), of(t, "[A: bool -> bool | B: {x: int, y: [Z: int]} -> int | C: {a: unit}]")},
		{sited(t, "{a: ?}", 1), choices(t, 1, "{a: int}"), of(t, "{a: {a: int}}")}, {sited(t, "[A: ?]", 1), choices(t, 1, "{a: int}"), of(t, "[A: {a: int}]")},
		{sited(t, "? -> ?", 1, 2), nil, sited(t, "? -> ?", 1, 2)}, {sited(t, "? -> ?", 1, 2), choices(t, 3, "int"), sited(t, "? -> ?", 1, 2)}, {of(t, "int -> {a: bool}"), choices(t, 1, "int", 2, "bool"), of(t, "int -> {a: bool}")},
		{sited(t, "? -> ?", 0, 1), choices(t, 1, "int"), sited(t, "? -> int", 0)}, {sited(t, "? -> ?", 0, 0), choices(t, 1, "int"), sited(t, "? -> ?", 0, 0)}, {nil, choices(t, 1, "int"), nil}, {nil, nil, nil},
	} {
		if got := assign.Type(c.x, c.l); !slices.Equal(got, c.want) {
			t.Errorf("%v with %v: %v, want %v", c.x, c.l, got, c.want)
		}
	}
}

// P11.1 (K1): only a ? has a site; the N of other nodes is something else.
func TestTypeOtherNumbers(t *testing.T) {
	x := api.Type{{Kind: api.Record, N: 3}, {Kind: api.Var, Name: "a", N: 2}, {Kind: api.Union, Name: "b", N: 1}, {Kind: api.Tail, N: 1}, {Kind: api.Tail, N: 3}}
	l := choices(t, 1, "int", 2, "bool", 3, "unit")
	if got := assign.Type(x, l); !slices.Equal(got, x) {
		t.Errorf("%v", got)
	}
	if got := assign.Sites([]api.Module{{Defs: []api.Def{{T: x}}}}); len(got) != 0 {
		t.Errorf("%v", got)
	}
}

// P11.1 (K1): all parts of an expression are filled in both of their types, and nothing else in them changes.
func TestExpr(t *testing.T) {
	l := choices(t, 2, "int -> int", 3, "bool", 5, "{a: unit}")
	for kind := api.Lit; kind <= api.Cast; kind++ {
		e := api.Expr{
			{Kind: kind, Label: "l", Name: "n", Bind: "b", Many: 2, Num: 3, T: sited(t, "{a: ?, b: ?}", 1, 2), U: sited(t, "? -> ?", 3, 4)}, {Kind: api.Name, Name: "x", Num: 2},
			{Kind: kind, Label: "m", Many: 5, Num: 5, T: sited(t, "?", 5), U: sited(t, "?", 0)}, {Kind: kind, U: sited(t, "? -> ?", 6, 2)},
		}
		want := api.Expr{
			{Kind: kind, Label: "l", Name: "n", Bind: "b", Many: 2, Num: 3, T: sited(t, "{a: ?, b: int -> int}", 1), U: sited(t, "bool -> ?", 4)}, {Kind: api.Name, Name: "x", Num: 2},
			{Kind: kind, Label: "m", Many: 5, Num: 5, T: of(t, "{a: unit}"), U: sited(t, "?", 0)}, {Kind: kind, U: sited(t, "? -> int -> int", 6)},
		}
		if got := assign.Expr(e, l); !slices.EqualFunc(got, want, equalParts) {
			t.Errorf("%d: %v, want %v", kind, got, want)
		}
		if got := assign.Expr(e, nil); !slices.EqualFunc(got, e, equalParts) {
			t.Errorf("%d: %v, want %v", kind, got, e)
		}
	}
	if got := assign.Expr(nil, l); len(got) != 0 {
		t.Errorf("%v", got)
	}
}

// P11.1 (K1): programs that are filled, as they are printed.
func TestProgram(t *testing.T) {
	p, n := program(t, "b", "import a; def g = a!f; def h: ? -> ? = fun (x) -> [A = x];", "a", "def f = fun (x: ?) -> (x: ? -> int);", "c", "")
	if n != 8 {
		t.Fatal(n)
	}
	for _, c := range []struct {
		l    []api.Choice
		want string
	}{
		{nil, "a: def f: ? = (fun (x: ?) -> (x: ? -> int));\nb: import a;\ndef g: ? = a!f;\ndef h: ? -> ? = (fun (x: ?) -> [A = x: ?]);\nc: "},
		{choices(t, 1, "bool"), "a: def f: bool = (fun (x: ?) -> (x: ? -> int));\nb: import a;\ndef g: ? = a!f;\ndef h: ? -> ? = (fun (x: ?) -> [A = x: ?]);\nc: "},
		{choices(t, 2, "int -> int", 3, "unit", 4, "{}"), "a: def f: ? = (fun (x: int -> int) -> (x: unit -> int));\nb: import a;\ndef g: {} = a!f;\ndef h: ? -> ? = (fun (x: ?) -> [A = x: ?]);\nc: "},
		{choices(t, 1, "int", 6, "[A: int]", 7, "string", 8, "[A: string]", 10, "unit"), "a: def f: int = (fun (x: ?) -> (x: ? -> int));\nb: import a;\ndef g: ? = a!f;\ndef h: ? -> [A: int] = (fun (x: string) -> [A = x: [A: string]]);\nc: "},
	} {
		if got := printed(assign.Program(p, c.l)); got != c.want {
			t.Errorf("%v: %s, want %s", c.l, got, c.want)
		}
	}
}

// P11.1 (K1): everything but types is unchanged in a program, also its Sites.
func TestProgramOtherwise(t *testing.T) {
	part := api.Part{Kind: api.Cast, Label: "l", Name: "n", Bind: "b", Many: 1, Num: 1, T: sited(t, "?", 1), U: sited(t, "? -> ?", 2, 3)}
	p := []api.Module{
		{Name: "m", Imports: []string{"l", "k", "l"}, Defs: []api.Def{{Name: "d", T: sited(t, "{a: ?}", 2), E: api.Expr{part, part}}, {Name: "c"}}, Sites: []api.Site{{From: 1, To: 2}, {From: 3, To: 3, Miss: true}}},
		{}, {Name: "o", Sites: []api.Site{{From: 7, To: 8}}},
	}
	if got := assign.Program(p, nil); !slices.EqualFunc(got, p, equal) {
		t.Errorf("%v", got)
	}
	got := assign.Program(p, choices(t, 1, "int", 2, "bool"))
	part.T, part.U = of(t, "int"), sited(t, "bool -> ?", 3)
	p[0].Defs = []api.Def{{Name: "d", T: of(t, "{a: bool}"), E: api.Expr{part, part}}, {Name: "c"}}
	if !slices.EqualFunc(got, p, equal) {
		t.Errorf("%v, want %v", got, p)
	}
	if got := assign.Program(nil, choices(t, 1, "int")); len(got) != 0 {
		t.Errorf("%v", got)
	}
}

// P11.1 (K1): filling ends and does not panic whatever it is given; what is no choice fills nothing.
func TestInvalid(t *testing.T) {
	x := sited(t, "{a: ?, b: ?, c: ?, d: ?}", 0, 1, 2, 3)
	x[1].N = -1
	l := []api.Choice{{Site: -1, T: of(t, "int")}, {Site: 1}, {Site: 2, T: of(t, "bool")}, {Site: 0, T: of(t, "int")}}
	want := slices.Clone(x)
	want[3].Kind, want[3].N = api.Bool, 0
	if got := assign.Type(x, l); !slices.Equal(got, want) {
		t.Errorf("%v, want %v", got, want)
	}
	broken := []api.Module{{Defs: []api.Def{{T: api.Type{{Kind: 99, N: -5}, {Kind: -1}}, E: api.Expr{{Kind: -3, Many: -9}, {Kind: api.Case, Many: 99}}}, {E: api.Expr{{Kind: api.Rows, Many: 1 << 62}}}}}}
	if got := assign.Program(broken, l); !slices.EqualFunc(got, broken, equal) {
		t.Errorf("%v", got)
	}
	if got := assign.Sites(broken); len(got) != 0 {
		t.Errorf("%v", got)
	}
	for _, y := range [][]api.Module{nil, {}, {{}}, broken, {{Defs: []api.Def{{T: of(t, "?")}}}}} {
		assign.Below(y, broken)
		assign.Below(broken, y)
	}
}
