package scope_test

import (
	"slices"
	"strings"
	"testing"

	"leaven/api"
	"leaven/parse"
	"leaven/scope"
	"leaven/ty"
)

// mods is the modules of names and texts.
func mods(t *testing.T, l ...string) []api.Module {
	t.Helper()
	var out []api.Module
	for i := 0; i < len(l); i += 2 {
		m, at, e := parse.Parse(l[i], l[i+1])
		if e != api.OK {
			t.Fatalf("%s: %d at %d", l[i+1], e, at)
		}
		out = append(out, m)
	}
	return out
}

// names is the names of modules.
func names(l []api.Module) string {
	var out []string
	for _, m := range l {
		out = append(out, m.Name)
	}
	return strings.Join(out, " ")
}

// listed is the names and the types that Env returns.
func listed(env []api.Bound) string {
	var out []string
	for _, b := range env {
		out = append(out, b.Name+": "+ty.Print(b.T))
	}
	return strings.Join(out, ", ")
}

// P9.1 (I1): the definitions of a module that imports nothing.
func TestNamesOfOne(t *testing.T) {
	for _, c := range []struct {
		text string
		d    int
		name string
	}{
		{"", 0, ""}, {"def x = 1;", 0, ""}, {"def x = 1; def y = x;", 0, ""}, {"def x = 1; def y = x + 1; def z = x + y;", 0, ""},
		{"def x = x;", 0, "x"}, {"def x = y; def y = 1;", 0, "y"}, {"def x = 1; def y = x; def z = z;", 2, "z"}, {"def x = 1; def y = z; def z = x;", 1, "z"}, {"def x = 1; def y = q; def z = w;", 1, "q"},
		{"def x = c + b + d;", 0, "b"}, {"def x = z + y + x;", 0, "x"}, {"def x = aa + aB + a_;", 0, "aB"}, {"def x = a0 + a!z;", 0, "a!z"}, {"def x = a!z + a;", 0, "a"}, {"def x = b!x + a!z;", 0, "a!z"}, {"def b = 1; def x = c + b + a!x + d;", 1, "a!x"},
		{"def x = fun (x) -> x;", 0, ""}, {"def x = fun (y) -> x;", 0, "x"}, {"def x = let x = 1 in x;", 0, ""}, {"def x = let x = x in 1;", 0, "x"}, {"def x = rec x (y) = x y in x 1;", 0, ""}, {"def x = rec f (x) = f x in f x;", 0, "x"}, {"def x = case [A = 1] of A x -> x | B y -> x end;", 0, "x"}, {"def x = case x of A x -> x end;", 0, "x"}, {"def x = case [A = 1] of A x -> x | B y -> y end;", 0, ""},
		{"def x = {x = 1}.x;", 0, ""}, {"def x = {y = z}.x;", 0, "z"}, {"def x = [X = z];", 0, "z"}, {"def x = (z: int);", 0, "z"}, {"def x = if 1 then 2 else z;", 0, "z"}, {"def x = (fun (y) -> y) y;", 0, "y"}, {"def x = z.x;", 0, "z"},
		{"def x = m!x;", 0, "m!x"}, {"def x = 1; def y = m!x;", 1, "m!x"}, {"def x = fun (m) -> m!m;", 0, "m!m"}, {"def m = 1; def y = m!m;", 1, "m!m"}, {"def x = 1; def y = x!x;", 1, "x!x"}, {"import a; def x = a;", 0, "a"}, {"import a; def x = a!x;", 0, "a!x"},
	} {
		want := api.OK
		if c.name != "" {
			want = api.ErrName
		}
		m, d, name, e := scope.Names(mods(t, "m", c.text))
		if m != 0 || d != c.d || name != c.name || e != want {
			t.Errorf("%s: %d %d %q %d, want %d %q", c.text, m, d, name, e, c.d, c.name)
		}
	}
}

// P9.1 (I1): what modules import, and which definition is told.
func TestNamesOfMany(t *testing.T) {
	const a = "def x = 1; def y = x;"
	for _, c := range []struct {
		l    []string
		m, d int
		name string
	}{
		{nil, 0, 0, ""}, {[]string{"a", a, "b", ""}, 0, 0, ""},
		{[]string{"a", a, "b", "import a; def z = a!x + a!y;"}, 0, 0, ""}, {[]string{"a", a, "b", "import a; def x = a!x; def y = x + a!x;"}, 0, 0, ""},
		{[]string{"a", a, "b", "import a; def z = a!z;"}, 1, 0, "a!z"}, {[]string{"a", a, "b", "import a; def z = x;"}, 1, 0, "x"}, {[]string{"a", a, "b", "def z = a!x;"}, 1, 0, "a!x"}, {[]string{"a", a, "b", "def z = 1; def w = z + x;"}, 1, 1, "x"},
		{[]string{"a", "def x = b!x;", "b", "import a; def x = 1;"}, 0, 0, "b!x"}, {[]string{"a", a, "b", "import a; def z = b!z + a!x;"}, 1, 0, "b!z"},
		{[]string{"a", a, "b", "import a; def z = 1;", "c", "import b; def x = b!z;"}, 0, 0, ""}, {[]string{"a", a, "b", "import a; def z = 1;", "c", "import b; def x = a!x;"}, 2, 0, "a!x"}, {[]string{"a", a, "b", "import a; def z = 1;", "c", "import b; import a; def x = a!x + b!z;"}, 0, 0, ""}, {[]string{"a", a, "b", "import a; def z = 1;", "c", "import b; import a; def x = a!x + b!x;"}, 2, 0, "b!x"}, {[]string{"a", a, "b", "import a; def z = 1;", "c", "import b; import a; def x = a!z;"}, 2, 0, "a!z"},
		{[]string{"a", "def x = 1; def y = z;", "b", "def x = a;"}, 0, 1, "z"}, {[]string{"a", a, "b", "def x = q; def y = a;"}, 1, 0, "q"}, {[]string{"a", a, "b", "def x = 1; def y = 2; def z = z; def w = a;", "c", "def x = a;"}, 1, 2, "z"}, {[]string{"a", a, "b", "import a; def y: int = 2; def z = fun (q) -> a!x + q + y + z + a!w;"}, 1, 1, "a!w"},
		{[]string{"a", a, "b", "import a; def z = fun (a) -> a!x + a;"}, 0, 0, ""}, {[]string{"a", a, "b", "import a; def a = a!x; def z = a + a!x;"}, 0, 0, ""}, {[]string{"a", a, "aB", "import a; def z = a!x;", "aa", "import a; import aB; def z = aB!z + aB!x + a!x;"}, 2, 0, "aB!x"},
	} {
		want := api.OK
		if c.name != "" {
			want = api.ErrName
		}
		m, d, name, e := scope.Names(mods(t, c.l...))
		if m != c.m || d != c.d || name != c.name || e != want {
			t.Errorf("%q: %d %d %q %d, want %d %d %q", c.l, m, d, name, e, c.m, c.d, c.name)
		}
	}
}

// P9.1 (I3): what definitions may refer to, in its order and with its types.
func TestEnv(t *testing.T) {
	l := mods(t,
		"b", "def x: int = 1; def a: ? -> bool = fun (q) -> true;",
		"a", "def y = 1; def x: {p: unit, o: ?} = 2;",
		"d", "",
		"c", "import b; import d; import a; def x: string = \"\"; def y: [A: ?] = 1; def z = 3;",
		"e", "import c; def w: int = 1;",
		"f", "def y: unit = (); def x: bool = true;")
	imports := "b!x: int, b!a: ? -> bool, a!y: ?, a!x: {o: ?, p: unit}"
	for _, c := range []struct {
		m, d int
		want string
	}{
		{0, 0, ""}, {0, 1, "x: int"}, {1, 0, ""}, {1, 1, "y: ?"},
		{3, 0, imports}, {3, 1, imports + ", x: string"}, {3, 2, imports + ", x: string, y: [A: ?]"}, {4, 0, "c!x: string, c!y: [A: ?], c!z: ?"}, {5, 0, ""}, {5, 1, "y: unit"},
		{0, 2, ""}, {0, -1, ""}, {1, 2, ""}, {2, 0, ""}, {2, -1, ""}, {2, 1, ""}, {3, 3, ""}, {3, 4, ""}, {3, -1, ""}, {4, 1, ""}, {6, 0, ""}, {6, 1, ""}, {-1, 0, ""}, {-1, -1, ""}, {1 << 62, 0, ""}, {0, 1 << 62, ""}, {-1 << 63, 0, ""}, {0, -1 << 63, ""},
	} {
		if got := listed(scope.Env(l, c.m, c.d)); got != c.want {
			t.Errorf("%d %d: %s, want %s", c.m, c.d, got, c.want)
		}
	}
	if env := scope.Env(nil, 0, 0); len(env) != 0 {
		t.Errorf("%v", env)
	}
	numbered, _, _ := scope.Number(l)
	if env := scope.Env(numbered, 3, 2); env[1].T[1].N != 1 || env[2].T[0].N != 3 || env[3].T[1].N != 4 || env[5].T[1].N != 5 {
		t.Errorf("%v", env)
	}
	if env := scope.Env(l, 3, 2); env[1].T[1].N != 1 || env[2].T[0].N != 1 || env[3].T[1].N != 2 || env[5].T[1].N != 1 {
		t.Errorf("%v", env)
	}
}

// P9.1 (I4), and the order of what goes wrong.
func TestProgram(t *testing.T) {
	many := "def x: " + strings.Repeat("? -> ", 60) + "? = 1;"
	for _, c := range []struct {
		l     []string
		order string
		n, at int
		e     api.Errno
	}{
		{nil, "", 0, 0, api.OK}, {[]string{"a", ""}, "a", 0, 0, api.OK}, {[]string{"b", "import a; def y: ? -> int = fun (z) -> a!x;", "a", "def x = 1;"}, "a b", 3, 0, api.OK}, {[]string{"c", "def x = 1;", "b", "", "a", "import c; def y = c!x;"}, "b c a", 2, 0, api.OK},
		{[]string{"a", "def x = x;", "b", "", "a", many}, "", 0, 2, api.ErrExists}, {[]string{"a", "import c;", "b", "", "b", ""}, "", 0, 2, api.ErrExists}, {[]string{"a", "import a;", "b", "", "b", ""}, "", 0, 2, api.ErrExists},
		{[]string{"a", "def x = x;", "b", "import c;"}, "", 0, 1, api.ErrNone}, {[]string{"a", "import a;", "b", many, "c", "import d;"}, "", 0, 2, api.ErrNone}, {[]string{"b", "import c;", "a", ""}, "", 0, 0, api.ErrNone},
		{[]string{"b", "import a; def x = x;", "a", "import b; " + many}, "", 0, 1, api.ErrCycle}, {[]string{"a", "def x = y;", "b", "import b;"}, "", 0, 1, api.ErrCycle}, {[]string{"a", many, "b", "import b;"}, "", 0, 1, api.ErrCycle},
		{[]string{"b", "def x = x;", "a", many}, "", 0, 0, api.ErrName}, {[]string{"b", many, "a", "def x = x;"}, "", 0, 1, api.ErrName}, {[]string{"b", "import a; def y = a!x;", "a", "def x = x;"}, "", 0, 1, api.ErrName}, {[]string{"b", "def y = a!x;", "a", "def x = 1;"}, "", 0, 0, api.ErrName},
		{[]string{"c", "def x = x;", "b", "def x = x;", "a", "import c; def x = x;"}, "", 0, 1, api.ErrName}, {[]string{"a", "import c; def x = x;", "c", "def x = x;", "b", ""}, "", 0, 1, api.ErrName}, {[]string{"d", "import b; def x = b!x;", "c", "import b; def x = b!y;", "b", "def x = 1;", "a", "import d; def x = d!x;"}, "", 0, 1, api.ErrName},
		{[]string{"b", "", "a", many}, "", 0, 0, api.ErrMany}, {[]string{"b", many, "a", ""}, "", 0, 0, api.ErrMany}, {[]string{"b", many[:len(many)-6] + "int = 1;", "a", ""}, "a b", 60, 0, api.OK}, {[]string{"b", many[:len(many)-6] + "int = 1;", "a", "def x = 1;"}, "", 0, 0, api.ErrMany},
	} {
		p, n, at, e := scope.Program(mods(t, c.l...))
		if names(p) != c.order || n != c.n || at != c.at || e != c.e {
			t.Errorf("%q: %s %d %d %d, want %s %d %d %d", c.l, names(p), n, at, e, c.order, c.n, c.at, c.e)
		}
	}
}

// P9.1 (I4): modules in their order are returned as Number returns them, and so they are in any other order.
func TestProgramIsNumber(t *testing.T) {
	l := mods(t, "a", "def x: ? -> ? = fun (y) -> y;", "c", "def x = [A = 1]; def y: int = 2;", "b", "import a; import c; def x = (a!x: ?); def y = rec f (x) = c!x in f;", "d", "import b;")
	want, wantN, _ := scope.Number(l)
	for _, order := range [][]int{{0, 1, 2, 3}, {3, 2, 1, 0}, {2, 0, 3, 1}, {1, 3, 0, 2}} {
		var other []api.Module
		for _, i := range order {
			other = append(other, l[i])
		}
		got, n, at, e := scope.Program(other)
		if !slices.EqualFunc(got, want, equal) || n != wantN || n != 10 || at != 0 || e != api.OK {
			t.Errorf("%v: %v %d %d %d, want %v %d", order, got, n, at, e, want, wantN)
		}
	}
}

// R1, R4 and R7: modules that form no program make no call fail.
func TestNoProgram(t *testing.T) {
	name := func(s string) api.Expr { return api.Expr{{Kind: api.Name, Name: s}} }
	l := []api.Module{
		{Name: "a", Imports: []string{"z", "b", "a"}, Defs: []api.Def{{Name: "x", E: name("b!y")}, {Name: "x", E: name("x")}, {Name: "y", E: name("a!y")}}},
		{Name: "b", Defs: []api.Def{{Name: "y", T: api.Type{{N: 1}}, E: name("y!")}}},
		{Name: "b", Imports: []string{"b"}, Defs: []api.Def{{Name: "x", E: name("b!y")}, {E: api.Expr{}}, {E: api.Expr{{Kind: -1}, {Kind: 99}}}, {E: api.Expr{{Kind: api.If}}}}},
	}
	if m, d, s, e := scope.Names(l); m != 1 || d != 0 || s != "y!" || e != api.ErrName {
		t.Errorf("%d %d %q %d", m, d, s, e)
	}
	l[1].Defs[0].E = nil
	if m, d, s, e := scope.Names(l); m != 0 || d != 0 || s != "" || e != api.OK {
		t.Errorf("%d %d %q %d", m, d, s, e)
	}
	if got := listed(scope.Env(l, 2, 1)); got != "b!y: ?, x: " {
		t.Errorf("%s", got)
	}
	if got := listed(scope.Env(l, 0, 2)); got != "b!y: ?, a!x: , a!x: , a!y: , x: , x: " {
		t.Errorf("%s", got)
	}
	if p, n, at, e := scope.Program(l); len(p) != 0 || n != 0 || at != 2 || e != api.ErrExists {
		t.Errorf("%v %d %d %d", p, n, at, e)
	}
	if p, n, e := scope.Number(l); len(p) != 3 || n != 0 || e != api.OK || p[1].Defs[0].T[0].N != 1 {
		t.Errorf("%v %d %d", p, n, e)
	}
}
