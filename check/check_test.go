package check_test

import (
	"slices"
	"strings"
	"testing"

	"leaven/api"
	"leaven/check"
	"leaven/lex"
	"leaven/parse"
	"leaven/tread"
	"leaven/ty"
)

// of is the type of a text, with sites from 1 on.
func of(t *testing.T, s string) api.Type {
	t.Helper()
	tokens, _, _ := lex.Tokens(s)
	x, _, errno := tread.Of(tokens)
	if errno != api.OK {
		t.Fatalf("%s: %d", s, errno)
	}
	return x
}

// expr is the expression of a text, with sites from 2 on.
func expr(t *testing.T, s string) api.Expr {
	t.Helper()
	m, at, errno := parse.Parse("m", "def q = "+s+";")
	if errno != api.OK {
		t.Fatalf("%s: %d at %d", s, errno, at)
	}
	return m.Defs[0].E
}

// bounds is the names of a text such as "x: int; y: ?", with their types.
func bounds(t *testing.T, s string) []api.Bound {
	t.Helper()
	var env []api.Bound
	for _, one := range strings.Split(s, "; ") {
		if name, typ, ok := strings.Cut(one, ": "); ok {
			env = append(env, api.Bound{Name: name, T: of(t, typ)})
		}
	}
	return env
}

const names = "d: ?; n: int; b: bool; s: string; f: int -> bool; h: ? -> int; k: int -> ?; r: {a: int, b: ?}; u: [A: int | B: ?]; w: [C: bool]; m!x: string; m!f: string -> unit"

// P10.1 (J1): the type of each kind of part.
func TestTypes(t *testing.T) {
	env := bounds(t, names)
	for _, c := range [][2]string{
		{"1", "int"}, {"true", "bool"}, {"false", "bool"}, {`"x"`, "string"}, {"()", "unit"}, // Lit
		{"d", "?"}, {"n", "int"}, {"f", "int -> bool"}, {"r", "{a: int, b: ?}"}, {"m!x", "string"}, // Name
		{"fun (x) -> x", "? -> ?"}, {"fun (x: int) -> x", "int -> int"}, {"fun (x) -> x + 1", "? -> int"}, {"fun (x: int) -> fun (y: bool) -> x", "int -> bool -> int"}, {"fun (x: int -> bool) -> x 1", "(int -> bool) -> bool"}, {"fun (x: {a: ?}) -> x.a", "{a: ?} -> ?"},
		{"f 1", "bool"}, {"f n", "bool"}, {"f d", "bool"}, {"d 1", "?"}, {"d d", "?"}, {"d f", "?"}, {"h true", "int"}, {"h h", "int"}, {"k 1", "?"}, {"k 1 true", "?"}, {`m!f "x"`, "unit"}, {"(fun (x: int -> ?) -> x) f", "int -> ?"}, {"(fun (x: ? -> bool) -> x) k", "? -> bool"},
		{"let x: int = 1 in x", "int"}, {"let x = 1 in x", "?"}, {"let x: int = d in x", "int"}, {"let x: ? -> int = f in x 1", ""}, {"let x: ? -> bool = f in x", "? -> bool"}, {"let x: bool = true in 1", "int"}, {"let x = true in x + 1", "int"},
		{"rec g (x: int): int = g x in g", "int -> int"}, {"rec g (x): bool = true in g", "? -> bool"}, {"rec g (x) = x in g 1", "?"}, {"rec g (x: int): bool = d in g 1", "bool"}, {"rec g (x: int): int = if x < 1 then 0 else x + g (x - 1) in g 5", "int"}, {"rec g (x: int): bool -> ? = fun (y) -> x in 1", "int"},
		{"if true then 1 else 2", "int"}, {"if d then 1 else d", "int"}, {"if b then d else 1", "int"}, {"if b then d else d", "?"}, {"if b then f else k", "int -> bool"}, {"if b then h else k", "int -> int"}, {"if b then r else {a = d, b = b}", "{a: int, b: bool}"}, {"if d then f else h", ""},
		{"case u of A x -> x | B x -> x end", "int"}, {"case u of B x -> x | A x -> 1 end", "int"}, {"case u of B x -> b | A x -> x < 1 end", "bool"}, {"case u of A x -> d | B x -> x end", "?"}, {"case w of C x -> x end", "bool"}, {"case d of A x -> x end", "?"}, {"case d of Z x -> f | Y x -> k | X x -> h end", ""}, {"case d of Z x -> x | Y x -> k | X x -> h end", "int -> int"}, {"case [A = 1] of A x -> x | B y -> 0 end", "int"}, {"case [A = 1: [A: int]] of A x -> {x = x} end", "{x: int}"},
		{"1 + 2", "int"}, {"n - d", "int"}, {"d * d", "int"}, {"1 / n", "int"}, {"1 < d", "bool"}, {"d == n", "bool"}, {"b && d", "bool"}, {"d || true", "bool"}, {`"x" ++ d`, "string"}, {"d ++ d", "string"}, {"m!x ++ s", "string"}, {"1 < 2 && 3 == 4", "bool"},
		{"{}", "{}"}, {"{a = 1}", "{a: int}"}, {"{c = 1, a = b, b = d}", "{a: bool, b: ?, c: int}"}, {"{b = 1, aa = {z = s, y = ()}, a = f}", "{a: int -> bool, aa: {y: unit, z: string}, b: int}"},
		{"r.a", "int"}, {"r.b", "?"}, {"d.a", "?"}, {"d.a.b", "?"}, {"{b = 1, a = f}.a", "int -> bool"}, {"{b = {c = s}}.b.c", "string"},
		{"[A = 1]", "?"}, {"[A = 1: ?]", "?"}, {"[A = 1: [A: int]]", "[A: int]"}, {"[A = 1: [A: ? | B: unit]]", "[A: ? | B: unit]"}, {"[B = d: [A: ? | B: unit]]", "[A: ? | B: unit]"}, {"[C = f: [C: ? -> ?]]", "[C: ? -> ?]"},
		{"(1: int)", "int"}, {"(1: ?)", "?"}, {"(d: bool)", "bool"}, {"(f: ? -> ?)", "? -> ?"}, {"(k: ? -> bool)", "? -> bool"}, {"(r: {a: ?, b: int})", "{a: ?, b: int}"}, {"((1: ?): bool)", "bool"},
	} {
		x, at, errno := check.Expr(env, expr(t, c[0]))
		if c[1] == "" {
			if len(x) != 0 || errno != api.ErrType {
				t.Errorf("%s: %s at %d: %d", c[0], ty.Print(x), at, errno)
			}
			continue
		}
		if ty.Print(x) != c[1] || at != 0 || errno != api.OK {
			t.Errorf("%s: %s at %d: %d, want %s", c[0], ty.Print(x), at, errno, c[1])
		}
	}
}

// P10.1 (J1): the requirements on each kind of part, and which part is reported.
func TestRequirements(t *testing.T) {
	env := bounds(t, names)
	for _, c := range []struct {
		text  string
		at    int
		errno api.Errno
	}{
		{"z", 0, api.ErrName}, {"m!n", 0, api.ErrName}, {"x!m", 0, api.ErrName}, {"x", 0, api.ErrName}, {"fun (x) -> y", 1, api.ErrName}, // Name
		{"1 2", 0, api.ErrType}, {"r 1", 0, api.ErrType}, {"u 1", 0, api.ErrType}, {"() ()", 0, api.ErrType}, {"f true", 0, api.ErrType}, {"f f", 0, api.ErrType}, {"(fun (x: ? -> bool) -> x) h", 0, api.ErrType}, {"f 1 2", 0, api.ErrType}, // App
		{"let x: int = true in x", 0, api.ErrType}, {"let x: ? -> int = f in x", 0, api.ErrType}, {"let x: {a: int} = r in x", 0, api.ErrType}, {"let x: int = x in x", 1, api.ErrName},
		{"rec g (x: int): int = true in g", 0, api.ErrType}, {"rec g (x: int): int = f x in g", 0, api.ErrType}, {"rec g (x: int): bool = g in g", 0, api.ErrType}, {"rec g (x: int): int = x in x", 2, api.ErrName}, {"rec g (x: int): int = g true in g", 1, api.ErrType},
		{"if 1 then 2 else 3", 0, api.ErrType}, {"if s then 2 else 3", 0, api.ErrType}, {"if () then d else d", 0, api.ErrType}, {"if f then 2 else 3", 0, api.ErrType}, {"if true then 1 else b", 0, api.ErrType}, {"if true then f else h", 0, api.ErrType}, {"if b then r else {a = d}", 0, api.ErrType}, // If
		{"case 1 of A x -> 1 end", 0, api.ErrType}, {"case r of A x -> 1 end", 0, api.ErrType}, {"case f of A x -> 1 end", 0, api.ErrType}, {"case u of A x -> 1 end", 0, api.ErrType}, {"case u of B x -> 1 end", 0, api.ErrType}, {"case u of A x -> 1 | C x -> 1 end", 0, api.ErrType}, {"case u of A x -> 1 | B x -> 1 | C x -> 1 end", 0, api.ErrType}, {"case w of A x -> 1 | C x -> 1 end", 0, api.ErrType},
		{"case d of A x -> 1 | B x -> b end", 0, api.ErrType}, {"case u of A x -> x | B x -> s end", 0, api.ErrType}, {"case d of A x -> 1 | B x -> x | C x -> b end", 0, api.ErrType}, {"case d of A x -> x | B x -> n | C x -> s end", 0, api.ErrType}, {"case d of A x -> f | B x -> k | C x -> h end", 0, api.ErrType}, {"case u of A x -> x && b | B x -> b end", 3, api.ErrType}, // Case
		{"true + 1", 0, api.ErrType}, {"1 + true", 0, api.ErrType}, {"s - 1", 0, api.ErrType}, {"1 * f", 0, api.ErrType}, {"() / 1", 0, api.ErrType}, {"b < n", 0, api.ErrType}, {"b == b", 0, api.ErrType}, {"s == s", 0, api.ErrType}, {"1 && b", 0, api.ErrType}, {"b && 1", 0, api.ErrType}, {"b || s", 0, api.ErrType}, {"n || b", 0, api.ErrType}, {"s ++ 1", 0, api.ErrType}, {"n ++ n", 0, api.ErrType}, {"s + s", 0, api.ErrType}, {"d + b", 0, api.ErrType}, {"b < d", 0, api.ErrType}, // Op
		{"r.c", 0, api.ErrType}, {"{}.a", 0, api.ErrType}, {"1 .a", 0, api.ErrType}, {"f.a", 0, api.ErrType}, {"u.a", 0, api.ErrType}, {"s.a", 0, api.ErrType}, {"r.a.a", 0, api.ErrType}, {"r.c.d", 1, api.ErrType}, // Get
		{"[C = 1: [A: int]]", 0, api.ErrType}, {"[A = b: [A: int | B: bool]]", 0, api.ErrType}, {"[A = 1: int]", 0, api.ErrType}, {"[A = 1: {a: int}]", 0, api.ErrType}, {"[A = 1: int -> int]", 0, api.ErrType}, {"[B = f: [A: ? | B: ? -> int]]", 0, api.ErrType}, // Inject
		{"(1: bool)", 0, api.ErrType}, {"(f: ? -> int)", 0, api.ErrType}, {"(f: int)", 0, api.ErrType}, {"(r: {a: ?})", 0, api.ErrType}, {"((1: bool): ?)", 1, api.ErrType}, {"(u: [A: ?])", 0, api.ErrType},
	} {
		checkWrong(t, env, expr(t, c.text), c.text, c.at, c.errno)
	}
}

// checkWrong checks that part at of e is reported.
func checkWrong(t *testing.T, env []api.Bound, e api.Expr, text string, at int, errno api.Errno) {
	t.Helper()
	x, gotAt, got := check.Expr(env, e)
	if len(x) != 0 || gotAt != at || got != errno {
		t.Errorf("%s: %s at %d: %d, want %d: %d", text, ty.Print(x), gotAt, got, at, errno)
	}
}

// P10.1 (J1): of several wrong parts, the one that is checked first is reported.
func TestOrder(t *testing.T) {
	env := bounds(t, names+"; o: [A: int | B: int | C: int]")
	for _, c := range []struct {
		text  string
		at    int
		errno api.Errno
	}{
		{"1 z", 2, api.ErrName}, {"z (f b)", 1, api.ErrName}, {"f b z", 1, api.ErrType}, {"(f b) (f z)", 1, api.ErrType}, {"f (f (f z))", 6, api.ErrName}, {"y z", 1, api.ErrName}, // children come first, in order
		{"true + z", 2, api.ErrName}, {"z + f b", 1, api.ErrName}, {"f b + z", 1, api.ErrType}, {"{a = 1 + b, b = z}", 1, api.ErrType}, {"{b = z, a = 1 + b}", 1, api.ErrName}, {"[C = z: [A: int]]", 1, api.ErrName}, {"(z: int)", 1, api.ErrName}, {"(f b: int)", 1, api.ErrType}, {"(f b).a", 1, api.ErrType}, {"fun (x: int) -> x b", 1, api.ErrType},
		{"if 1 then z else 2", 2, api.ErrName}, {"if 1 then 2 else z", 3, api.ErrName}, {"if z then f b else 1", 1, api.ErrName}, {"if f b then z else 1", 1, api.ErrType}, {"if 1 then f b else z", 2, api.ErrType},
		{"let x: int = b in z", 0, api.ErrType}, {"let x: int = b in f b", 0, api.ErrType}, {"let x: int = z in f b", 1, api.ErrName}, {"let x: int = f b in z", 1, api.ErrType}, {"let x: int = 1 in z", 2, api.ErrName}, {"let x: int = 1 in let y: bool = x in z", 2, api.ErrType}, {"let x: int = (let y: int = b in z) in w", 1, api.ErrType}, {"1 + (let x: int = b in z)", 2, api.ErrType}, {"z + (let x: int = b in 1)", 1, api.ErrName},
		{"rec g (x: int): int = b in z", 0, api.ErrType}, {"rec g (x: int): int = b in f b", 0, api.ErrType}, {"rec g (x: int): int = z in f b", 1, api.ErrName}, {"rec g (x: int): int = f b in z", 1, api.ErrType}, {"rec g (x: int): int = x in z", 2, api.ErrName}, {"rec g (x: int): bool = g x in f b", 4, api.ErrType},
		{"case z of A x -> f b end", 1, api.ErrName}, {"case f b of A x -> z end", 1, api.ErrType}, {"case u of A x -> z end", 0, api.ErrType}, {"case 1 of A x -> z end", 0, api.ErrType}, {"case u of A x -> z | B x -> f b end", 3, api.ErrName}, {"case u of A x -> f b | B x -> z end", 3, api.ErrType}, {"case u of A x -> 1 | B x -> z end", 5, api.ErrName},
		{"case o of A x -> 1 | B x -> b | C x -> z end", 7, api.ErrName}, {"case o of A x -> 1 | B x -> b | C x -> f b end", 7, api.ErrType}, {"case o of A x -> 1 | B x -> b | C x -> 1 end", 0, api.ErrType}, {"case u of A x -> case x of A y -> z end | B x -> z end", 3, api.ErrType}, {"case case 1 of A x -> z end of A x -> y end", 1, api.ErrType},
	} {
		checkWrong(t, env, expr(t, c.text), c.text, c.at, c.errno)
	}
}

// P10.1 (J1): which of several bindings of a name counts, and where it does.
func TestNames(t *testing.T) {
	env := bounds(t, "x: int; y: string; x: bool; y: unit; x: {x: string}; m!x: int")
	for _, c := range [][2]string{
		{"x", "{x: string}"}, {"y", "unit"}, {"m!x", "int"}, {"{x = y, y = x}", "{x: unit, y: {x: string}}"},
		{"fun (x: int) -> x", "int -> int"}, {"fun (x: int) -> fun (x: bool) -> x", "int -> bool -> bool"}, {"(fun (x: ?) -> x) x", "?"}, {"{a = fun (x: int) -> x, b = x}", "{a: int -> int, b: {x: string}}"}, {"fun (x: int) -> {a = fun (x: bool) -> x, b = x}", "int -> {a: bool -> bool, b: int}"}, {"fun (m: bool) -> m!x", "bool -> int"}, {"fun (x: bool) -> m!x", "bool -> int"},
		{"let x: int = 1 in x", "int"}, {"let x: string = x.x in x", "string"}, {"let x: {x: ?} = x in x", "{x: ?}"}, {"{a = let x: int = 1 in x, b = x}", "{a: int, b: {x: string}}"}, {"let y: int = 1 in let y: {y: int} = {y = y} in y.y", "int"},
		{"rec x (z: int): bool = x z in x", "int -> bool"}, {"rec x (x: int): int = x + 1 in x", "int -> int"}, {"rec x (x: int): bool = x in 1", ""}, {"rec f (x: int): int = x + f x in x", "{x: string}"}, {"rec f (x: int): int = f x in {a = f, b = x}", "{a: int -> int, b: {x: string}}"}, {"{a = rec x (y: int): int = y in x y, b = x, c = y}", ""}, {"{a = rec x (y: int): int = y in x, b = x, c = y}", "{a: int -> int, b: {x: string}, c: unit}"},
		{"case [A = 1: [A: int | B: bool]] of A x -> x < 1 | B x -> x end", "bool"}, {"case [A = 1: [A: int | B: {x: string}]] of A y -> x | B x -> x end", "{x: string}"}, {"case [A = x: [A: {x: string}]] of A x -> case [B = x.x: [B: string]] of B x -> x end end", "string"}, {"{a = case [A = 1: [A: int]] of A x -> x end, b = x}", "{a: int, b: {x: string}}"}, {"case [A = 1: [A: int]] of A y -> {a = x, b = y} end", "{a: {x: string}, b: int}"},
	} {
		x, at, errno := check.Expr(env, expr(t, c[0]))
		if ty.Print(x) != c[1] || (errno != api.OK) != (c[1] == "") {
			t.Errorf("%s: %s at %d: %d, want %s", c[0], ty.Print(x), at, errno, c[1])
		}
	}
	for _, l := range [][]api.Bound{nil, {}, {{Name: "y", T: of(t, "int")}}, {{Name: "m!x", T: of(t, "int")}, {Name: "", T: of(t, "int")}}} {
		checkWrong(t, l, expr(t, "x"), "x", 0, api.ErrName)
	}
}

// sites are the sites of the ? of a type.
func sites(x api.Type) []int {
	var l []int
	for _, n := range x {
		if n.Kind == api.Dyn {
			l = append(l, n.N)
		}
	}
	return l
}

// P10.1 (J1): which sites a type has; those of env begin with 1 for each name, those of an expression with 2.
func TestSites(t *testing.T) {
	env := bounds(t, "d: ?; k: int -> {a: ?, b: ?}; h: (? -> ?) -> ?; u: [A: ? | B: int | C: ?]; r: {a: ?, b: {c: ?}}")
	for _, c := range []struct {
		text string
		want []int
	}{
		{"d", []int{1}}, {"r", []int{1, 2}}, {"fun (x) -> x", []int{2, 2}}, {"fun (x) -> fun (y: ? -> int) -> x", []int{2, 3, 2}}, {"d 1", []int{0}}, {"d d", []int{0}}, {"k 1", []int{1, 2}}, {"h d", []int{3}}, {"d.a", []int{0}}, {"r.a", []int{1}}, {"r.b", []int{2}},
		{"let x = 1 in x", []int{2}}, {"let x: int = d in d", []int{1}}, {"rec f (x) = x in f", []int{2, 3}}, {"rec f (x) = x in f 1", []int{3}}, {"rec f (x: ? -> ?) = x in f", []int{2, 3, 4}},
		{"if d then (1: ?) else (2: ?)", []int{2}}, {"if d then d else (2: ?)", []int{1}}, {"if d then (1: ?) else d", []int{2}}, {"if d then d else d.a", []int{1}}, {"if d then d.a else d", []int{0}}, {"if d then r else {a = 1, b = (d: ?)}", []int{2}}, {"if d then {b = d, a = (d: ?)} else r", []int{2, 2}}, {"if d then {b = {c = 1}, a = (d: ?)} else r", []int{2}},
		{"case u of A x -> x | B x -> d | C y -> y end", []int{1}}, {"case u of C x -> x | B x -> d | A y -> y end", []int{2}}, {"case d of A x -> x end", []int{0}}, {"case d of A x -> d | B x -> x end", []int{1}}, {"case d of A x -> (x: ?) | B x -> d end", []int{2}},
		{"[A = 1]", []int{2}}, {"[A = 1: [A: ? | B: ?]]", []int{2, 3}}, {"(d: ? -> ?)", []int{2, 3}}, {"{b = (1: ?), a = (2: ?), c = d}", []int{3, 2, 1}}, {"{b = (1: ?), a = d}.b", []int{2}}, {"d + d", nil},
	} {
		x, _, errno := check.Expr(env, expr(t, c.text))
		if errno != api.OK || !slices.Equal(sites(x), c.want) {
			t.Errorf("%s: %v %d, want %v", c.text, sites(x), errno, c.want)
		}
	}
}

// P10.1 (J1): casts, which no text has.
func TestCasts(t *testing.T) {
	env := bounds(t, names)
	for _, c := range []struct {
		e, from, to string
		at          int
		errno       api.Errno
	}{
		{"1", "int", "int", 0, api.OK}, {"1", "int", "?", 0, api.OK}, {"d", "?", "int", 0, api.OK}, {"d", "?", "?", 0, api.OK}, {"d", "?", "? -> ?", 0, api.OK}, {"f", "int -> bool", "? -> ?", 0, api.OK}, {"f", "int -> bool", "? -> bool", 0, api.OK}, {"h", "? -> int", "int -> ?", 0, api.OK}, {"r", "{a: int, b: ?}", "{a: ?, b: bool}", 0, api.OK}, {"fun (x) -> d", "? -> ?", "int -> int", 0, api.OK},
		{"1", "?", "int", 0, api.ErrType}, {"1", "?", "?", 0, api.ErrType}, {"d", "int", "int", 0, api.ErrType}, {"d", "int", "?", 0, api.ErrType}, {"1", "int", "bool", 0, api.ErrType}, {"1", "bool", "bool", 0, api.ErrType}, {"f", "? -> ?", "int -> bool", 0, api.ErrType}, {"f", "? -> bool", "? -> bool", 0, api.ErrType}, {"f", "int -> bool", "int", 0, api.ErrType}, {"f", "int -> bool", "int -> int", 0, api.ErrType}, {"r", "{a: int, b: ?}", "{a: ?}", 0, api.ErrType}, {"r", "{a: int, b: int}", "?", 0, api.ErrType},
		{"z", "int", "bool", 1, api.ErrName}, {"f b", "int", "bool", 1, api.ErrType}, {"f b", "bool", "bool", 1, api.ErrType},
	} {
		e := append(api.Expr{{Kind: api.Cast, T: of(t, c.from), U: of(t, c.to), Num: 3}}, expr(t, c.e)...)
		text := "<" + c.e + ": " + c.from + " => " + c.to + ">"
		if c.errno != api.OK {
			checkWrong(t, env, e, text, c.at, c.errno)
			continue
		}
		for i := range e[0].U {
			if e[0].U[i].Kind == api.Dyn {
				e[0].U[i].N = 40 + i
			}
		}
		x, at, errno := check.Expr(env, e)
		if errno != api.OK || at != 0 || !slices.Equal(x, e[0].U) {
			t.Errorf("%s: %v at %d: %d", text, x, at, errno)
		}
	}
}

// P10.1 (J1): a cast is of its type for the part around it, and as wide as that of its child only up to sites.
func TestCastsInside(t *testing.T) {
	cast := func(from, to string, e api.Expr) api.Expr {
		return append(api.Expr{{Kind: api.Cast, T: of(t, from), U: of(t, to)}}, e...)
	}
	env := bounds(t, names)
	plus := api.Expr{{Kind: api.Op, Name: "+"}}
	good := slices.Concat(plus, cast("?", "int", expr(t, "d")), expr(t, "1"))
	if x, at, errno := check.Expr(env, good); ty.Print(x) != "int" || at != 0 || errno != api.OK {
		t.Errorf("%s at %d: %d", ty.Print(x), at, errno)
	}
	checkWrong(t, env, slices.Concat(plus, cast("?", "bool", expr(t, "d")), expr(t, "1")), "bool", 0, api.ErrType)
	checkWrong(t, env, slices.Concat(plus, expr(t, "1"), cast("int", "?", expr(t, "d"))), "d is no int", 2, api.ErrType)
	checkWrong(t, env, cast("?", "int", cast("int", "bool", expr(t, "1"))), "inner", 1, api.ErrType)
	checkWrong(t, env, cast("int", "int", cast("int", "?", expr(t, "1"))), "outer", 0, api.ErrType)
	checkWrong(t, env, cast("int", "bool", cast("int", "int", expr(t, "z"))), "z", 2, api.ErrName)
	if x, _, errno := check.Expr(env, cast("?", "int", cast("int", "?", expr(t, "1")))); ty.Print(x) != "int" || errno != api.OK {
		t.Errorf("%s %d", ty.Print(x), errno)
	}
}
