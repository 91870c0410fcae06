package check_test

import (
	"slices"
	"strconv"
	"strings"
	"testing"

	"leaven/api"
	"leaven/check"
	"leaven/parse"
	"leaven/prec"
	"leaven/scope"
)

// program is the program of names and texts.
func program(t *testing.T, l ...string) []api.Module {
	t.Helper()
	var read []api.Module
	for i := 0; i < len(l); i += 2 {
		m, at, errno := parse.Parse(l[i], l[i+1])
		if errno != api.OK {
			t.Fatalf("%s: %d at %d", l[i+1], errno, at)
		}
		read = append(read, m)
	}
	p, _, at, errno := scope.Program(read)
	if errno != api.OK {
		t.Fatalf("%q: %d at %d", l, errno, at)
	}
	return p
}

// P10.1 (J2): the first definition that is wrong, and the part.
func TestProgram(t *testing.T) {
	const a = "def x: int = 1; def f: int -> bool = fun (y) -> y < x; def d = true;"
	for _, c := range []struct {
		l        []string
		m, d, at int
		errno    api.Errno
	}{
		{nil, 0, 0, 0, api.OK}, {[]string{"a", ""}, 0, 0, 0, api.OK}, {[]string{"a", a}, 0, 0, 0, api.OK}, {[]string{"a", a, "b", "import a; def x = a!f a!x && a!d; def y: bool = x;"}, 0, 0, 0, api.OK},
		{[]string{"a", "def x: int = true;"}, 0, 0, -1, api.ErrType}, {[]string{"a", "def x: int -> int = fun (x) -> x < 1;"}, 0, 0, -1, api.ErrType}, {[]string{"a", "def x: int = 1; def y: {a: int} = {a = x, b = x};"}, 0, 1, -1, api.ErrType}, {[]string{"a", "def x: int = (true: ?);"}, 0, 0, 0, api.OK}, {[]string{"a", "def x: int -> ? = fun (x: ?) -> x < 1;"}, 0, 0, 0, api.OK}, {[]string{"a", "def x = true + 1;"}, 0, 0, 0, api.ErrType},
		{[]string{"a", "def x = 1; def y = x + true;"}, 0, 1, 0, api.ErrType}, {[]string{"a", "def x = true; def y = x + 1; def z: bool = y;"}, 0, 0, 0, api.OK}, {[]string{"a", "def x: bool = true; def y = 1 + (1 + x); def z: bool = 1;"}, 0, 1, 2, api.ErrType}, {[]string{"a", "def x: bool = true; def y: int = x; def z = 1 + x;"}, 0, 1, -1, api.ErrType}, {[]string{"a", "def x: bool = 1 + true;"}, 0, 0, 0, api.ErrType}, {[]string{"a", "def x = let y: int = true in 1; def y: int = true;"}, 0, 0, 0, api.ErrType}, {[]string{"a", "def x = fun (y: int) -> y y;"}, 0, 0, 1, api.ErrType},
		{[]string{"a", a, "b", "import a; def y: bool = a!f a!x; def z = 1 + y;"}, 1, 1, 0, api.ErrType}, {[]string{"a", a, "b", "import a; def y: int = a!f 1;"}, 1, 0, -1, api.ErrType}, {[]string{"a", a, "b", "import a; def y: int = a!d; def z = a!f a!d; def w = a!f a!f;"}, 1, 2, 0, api.ErrType}, {[]string{"a", a, "b", "def x: bool = true; def y: bool = 1;", "c", "def x: bool = 1;"}, 1, 1, -1, api.ErrType},
		{[]string{"b", "def y: bool = 1;", "a", "def x = 1; def z: unit = x; def y: int = true; "}, 0, 2, -1, api.ErrType}, {[]string{"b", "import c;", "a", "import c; def y: int = true;", "c", "def y: bool = 1;"}, 0, 0, -1, api.ErrType}, {[]string{"b", "import c; def y: int = true;", "a", "import b; def y: int = true;", "c", "def y: int = 1; def z: bool = true;"}, 1, 0, -1, api.ErrType},
		{[]string{"a", "def x: int = 1;", "b", "import a; def x: bool = true; def y = x && a!x;"}, 1, 1, 0, api.ErrType}, {[]string{"a", "def x: int = 1;", "b", "import a; def x: bool = true; def y = a!x + 1; def z: bool = x;"}, 0, 0, 0, api.OK}, {[]string{"a", "def x: int = 1;", "b", "import a; def a: bool = true; def y: bool = (fun (x: bool) -> a && x) a;"}, 0, 0, 0, api.OK},
		{[]string{"a", "def x: int = 1;", "b", "def x: bool = true;", "c", "import b; import a; def x = a!x + 1; def y = b!x && true; def z = a!x + b!x;"}, 2, 2, 0, api.ErrType}, {[]string{"a", "def x: int = 1;", "b", "def x: bool = true; def y: bool = x;", "c", "def x: string = \"s\"; def y: string = x;"}, 0, 0, 0, api.OK},
	} {
		if m, d, at, errno := check.Program(program(t, c.l...)); m != c.m || d != c.d || at != c.at || errno != c.errno {
			t.Errorf("%q: %d %d %d %d, want %d %d %d %d", c.l, m, d, at, errno, c.m, c.d, c.at, c.errno)
		}
	}
}

// P10.1 (J2): names that a definition may not refer to have no types, even where modules have not been through layer 9.
func TestProgramNames(t *testing.T) {
	read := func(l ...string) []api.Module {
		var out []api.Module
		for i := 0; i < len(l); i += 2 {
			m, _, _ := parse.Parse(l[i], l[i+1])
			out = append(out, m)
		}
		return out
	}
	for _, c := range []struct {
		l        []api.Module
		m, d, at int
	}{
		{read("a", "def x = x;"), 0, 0, 0}, {read("a", "def x = x; def y = 1;"), 0, 0, 0}, {read("a", "def x = 1; def y = 1 + z; def z = 1; def w = 1;"), 0, 1, 2}, {read("a", "def x = 1; def y = x + z; def z = 1;"), 0, 1, 2}, {read("a", "def x = 1;", "b", "def y = x;"), 1, 0, 0}, {read("a", "def x = 1;", "b", "def y = a!x;"), 1, 0, 0},
		{read("a", "def x = 1;", "b", "import a; def y = fun (z) -> a!y;"), 1, 0, 1}, {read("a", "def x = fun (y) -> y; def z = y;"), 0, 1, 0}, {read("a", "def x = 1; def y = a!x;"), 0, 1, 0}, {read("a", "def x = true + 1;", "b", "def y = z;"), 0, 0, -2},
	} {
		want := api.ErrName
		if c.at == -2 {
			c.at, want = 0, api.ErrType
		}
		if m, d, at, errno := check.Program(c.l); m != c.m || d != c.d || at != c.at || errno != want {
			t.Errorf("%v: %d %d %d %d", c.l, m, d, at, errno)
		}
	}
}

// firstWrong is what J2 says, by Env of layer 9.
func firstWrong(l []api.Module) (int, int, int, api.Errno) {
	for m, module := range l {
		for d, def := range module.Defs {
			x, at, errno := check.Expr(scope.Env(l, m, d), def.E)
			if errno != api.OK {
				return m, d, at, errno
			}
			if !prec.Agree(x, def.T) {
				return m, d, -1, api.ErrType
			}
		}
	}
	return 0, 0, 0, api.OK
}

// P10.1 (J2): programs of three modules are held against the chapter.
func TestEveryProgram(t *testing.T) {
	first := []string{"def x: int = 1;", "def x = true; def y: bool = x;", "def y: int -> ? = fun (x) -> x; def x: bool = y 1;", "def x: bool = 1 + 1; def y = x;"}
	second := []string{"def x = a!x + 1;", "def x: bool = true; def y: int = a!x;", "def y = 1; def x = if a!x then y else 2; def z = x + y;"}
	third := []string{"def x: string = a!x; def y = b!x;", "def x = a!x; def y: int = b!x; def z: bool = x && a!x;", "def b: bool = a!x && b!x; def c = b || a!x; def d: int = a!x;", "def q: int = 1; def x = fun (q: bool) -> q && a!x; def y: bool = x q;"}
	wrong := map[[4]int]int{}
	for _, a := range first {
		for _, b := range second {
			for _, c := range third {
				for _, imports := range []string{"import a; import b; ", "import b; import a; "} {
					l := program(t, "c", imports+c, "b", "import a; "+b, "a", a)
					m, d, at, errno := check.Program(l)
					wm, wd, wat, want := firstWrong(l)
					if m != wm || d != wd || at != wat || errno != want {
						t.Fatalf("%s | %s | %s: %d %d %d %d, want %d %d %d %d", a, b, c, m, d, at, errno, wm, wd, wat, want)
					}
					wrong[[4]int{m, d, at, int(errno)}]++
				}
			}
		}
	}
	if len(wrong) < 8 {
		t.Errorf("only %v", wrong)
	}
}

// P10.1 (J2): as many modules, definitions and names as a session has.
func TestLargeProgram(t *testing.T) {
	var l []string
	for m := range 20 {
		var b strings.Builder
		for k := range m {
			b.WriteString("import m" + strconv.Itoa(k) + "; ")
		}
		b.WriteString("def x0: int = 1; ")
		for d := 1; d < 200; d++ {
			b.WriteString("def x" + strconv.Itoa(d) + ": int = x" + strconv.Itoa(d-1))
			if m > 0 {
				b.WriteString(" + m" + strconv.Itoa(d%m) + "!x" + strconv.Itoa(d))
			}
			b.WriteString("; ")
		}
		l = append(l, "m"+strconv.Itoa(m), b.String())
	}
	p := program(t, l...)
	if m, d, at, errno := check.Program(p); m != 0 || d != 0 || at != 0 || errno != api.OK {
		t.Errorf("%d %d %d %d", m, d, at, errno)
	}
	last := p[19].Defs[199].E
	p[19].Defs[199].E = append(slices.Clone(last[:1]), append(expr(t, "true"), last[2:]...)...)
	if m, d, at, errno := check.Program(p); m != 19 || d != 199 || at != 0 || errno != api.ErrType {
		t.Errorf("%d %d %d %d", m, d, at, errno)
	}
}
