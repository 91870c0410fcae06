package parse_test

import (
	"slices"
	"strconv"
	"strings"
	"testing"

	"leaven/api"
	"leaven/ast"
	"leaven/lex"
	"leaven/parse"
	"leaven/ty"
)

// parsed is the module of a text that has no errors.
func parsed(t *testing.T, s string) api.Module {
	t.Helper()
	m, at, e := parse.Parse("m", s)
	if e != api.OK || at != 0 {
		t.Fatalf("%.200q: %d %d", s, at, e)
	}
	checkSites(t, s, m)
	return m
}

// numbersIn are the sites of all ? of a type.
func numbersIn(x api.Type) []int {
	var l []int
	for _, n := range x {
		if n.Kind == api.Dyn {
			l = append(l, n.N)
		}
	}
	return l
}

// numbersOf are the sites of all ? of a module, in ascending order.
func numbersOf(m api.Module) []int {
	var l []int
	for _, d := range m.Defs {
		l = append(l, numbersIn(d.T)...)
		for _, p := range d.E {
			l = slices.Concat(l, numbersIn(p.T), numbersIn(p.U))
		}
	}
	slices.Sort(l)
	return l
}

// checkSites checks what P6.3 says of sites, and that all ? of the text that stand in types are among them.
func checkSites(t *testing.T, s string, m api.Module) {
	t.Helper()
	for i, n := range numbersOf(m) {
		if n != i+1 {
			t.Fatalf("%q: %v", s, numbersOf(m))
		}
	}
	last := -1
	var told []api.Site
	for _, x := range m.Sites {
		if x.From <= last || x.Miss && x.To != x.From || !x.Miss && s[x.From:x.To] != "?" {
			t.Fatalf("%q: %v", s, m.Sites)
		}
		last = x.From
		if !x.Miss {
			told = append(told, x)
		}
	}
	l, _, _ := lex.Tokens(s)
	var all []api.Site
	for _, k := range l {
		if k.Kind == api.Sign && k.Text == "?" {
			all = append(all, api.Site{From: k.From, To: k.To})
		}
	}
	if len(numbersOf(m)) != len(m.Sites) || !slices.Equal(told, all) {
		t.Fatalf("%q: %v %v", s, m.Sites, numbersOf(m))
	}
}

// checkRoundTrip checks that the printed form of a module is parsed as this module.
func checkRoundTrip(t *testing.T, m api.Module) {
	t.Helper()
	s := parse.Print(m)
	n, at, e := parse.Parse(m.Name, s)
	if e != api.OK || at != 0 || !parse.Same(m, n) || !parse.Same(n, m) || parse.Print(n) != s {
		t.Fatalf("%.200q: %d %d %.200q", s, at, e, parse.Print(n))
	}
	checkSites(t, s, n)
}

// checkWrong checks that a text is refused.
func checkWrong(t *testing.T, s string, wantAt int, want api.Errno) {
	t.Helper()
	m, at, e := parse.Parse("m", s)
	if at != wantAt || e != want || m.Name != "" || len(m.Imports) != 0 || len(m.Defs) != 0 || len(m.Sites) != 0 {
		t.Errorf("%.300q: %d %d %q, want %d %d", s, at, e, parse.Print(m), wantAt, want)
	}
}

// checkMarked checks that a text with one ^ is refused with the offset at which this stands.
func checkMarked(t *testing.T, s string, want api.Errno) {
	t.Helper()
	before, after, ok := strings.Cut(s, "^")
	if !ok {
		t.Fatal(s)
	}
	checkWrong(t, before+after, len(before), want)
}

// P6.1 (F1): the syntax of expressions.
func TestExpressions(t *testing.T) {
	for s, want := range map[string]string{
		"0": "0", "007": "7", "999999999999999999": "999999999999999999", "true": "true", "false": "false", "()": "()", "( #\n )": "()", `""`: `""`, `"a\n\x00\\\"é\xff"`: `"a\n\x00\\\"é\xff"`,
		"x": "x", "m!x": "m!x", "m ! x": "m!x", "m #\n!\t\n x": "m!x", "aB_0!zZ_9": "aB_0!zZ_9", "(x)": "x", "(((1)))": "1", "(m!x)": "m!x",
		"fun (x) -> x": "(fun (x: ?) -> x)", "fun (x: int) -> x": "(fun (x: int) -> x)", "fun (x: int -> {a: ?}) -> fun (y) -> x y": "(fun (x: int -> {a: ?}) -> (fun (y: ?) -> (x y)))", "fun (x) -> x + 1 * 2": "(fun (x: ?) -> (x + (1 * 2)))",
		"f x": "(f x)", "f x y z": "(((f x) y) z)", "f (x y) z": "((f (x y)) z)", "f ()": "(f ())", "f(x)": "(f x)", "f()()": "((f ()) ())", "f 1 \"s\" true false m!x {} [A = 1] (x: int)": "((((((((f 1) \"s\") true) false) m!x) {}) [A = 1: ?]) (x: int))", "1 2": "(1 2)", "f{a=1}[A=1]": "((f {a = 1}) [A = 1: ?])", "a!b c!d": "(a!b c!d)", "a b!c": "(a b!c)",
		"let x = 1 in x": "(let x: ? = 1 in x)", "let x: int = 1 in x": "(let x: int = 1 in x)", "let x = let y = 1 in y in let z = x in z + x": "(let x: ? = (let y: ? = 1 in y) in (let z: ? = x in (z + x)))",
		"rec f (x) = f x in f 1": "(rec f (x: ?): ? = (f x) in (f 1))", "rec f (x: int) = f in f": "(rec f (x: int): ? = f in f)", "rec f (x): int = f in f": "(rec f (x: ?): int = f in f)", "rec f (x: bool): int -> int = x in f": "(rec f (x: bool): int -> int = x in f)", "rec x (x) = x in x": "(rec x (x: ?): ? = x in x)",
		"if x then 1 else 2": "(if x then 1 else 2)", "if if a then b else c then if d then e else f else if g then h else i + j": "(if (if a then b else c) then (if d then e else f) else (if g then h else (i + j)))", "if x then fun (y) -> y else z": "(if x then (fun (y: ?) -> y) else z)",
		"case x of A y -> y end": "(case x of A y -> y end)", "case x of B y -> y | A z -> z | Aa y -> y z end": "(case x of B y -> y | A z -> z | Aa y -> (y z) end)", "case x of A x -> fun (x) -> x | B x -> let x = x in x | C x -> case x of A x -> x | D x -> x end end": "(case x of A x -> (fun (x: ?) -> x) | B x -> (let x: ? = x in x) | C x -> (case x of A x -> x | D x -> x end) end)", "case x of A y -> y || z | B y -> y end": "(case x of A y -> (y || z) | B y -> y end)",
		"case case x of A x -> x end of A x -> x end": "(case (case x of A x -> x end) of A x -> x end)",
		"{}": "{}", "{a = 1}": "{a = 1}", "{b = 1, a = 2}": "{b = 1, a = 2}", "{b = {a = 1, b = 2}, a = {}}": "{b = {a = 1, b = 2}, a = {}}", "{f = fun (x) -> x, g = x + y}": "{f = (fun (x: ?) -> x), g = (x + y)}", "{a = (x: int)}": "{a = (x: int)}", "{a=if x then y else z,b=f x}": "{a = (if x then y else z), b = (f x)}",
		"x.l": "x.l", "x.l.m": "x.l.m", "x . l . m": "x.l.m", "1.l": "1.l", "\"s\".l": "\"s\".l", "{a = 1}.a": "{a = 1}.a", "[A = 1].a": "[A = 1: ?].a", "().l": "().l", "true.l": "true.l", "m!x.l": "m!x.l", "(f x).l": "(f x).l", "f x.l": "(f x.l)", "f.l x.m y": "((f.l x.m) y)", "(x: int).l": "(x: int).l", "f (x).l": "(f x.l)", "(fun (x) -> x).l": "(fun (x: ?) -> x).l",
		"[A = 1]": "[A = 1: ?]", "[A = 1: int]": "[A = 1: int]", "[A = [B = 1: ?]: [A: ? | B: int]]": "[A = [B = 1: ?]: [A: ? | B: int]]", "[A = fun (x) -> x]": "[A = (fun (x: ?) -> x): ?]", "[A = x y + 1]": "[A = ((x y) + 1): ?]", "[A = 1: int -> int]": "[A = 1: int -> int]",
		"(x: int)": "(x: int)", "(x: ? -> ?)": "(x: ? -> ?)", "((x: int): ?)": "((x: int): ?)", "(fun (x) -> x: int)": "((fun (x: ?) -> x): int)", "(x + y: int)": "((x + y): int)", "(if x then y else z: int)": "((if x then y else z): int)",
		"1 + 2": "(1 + 2)", "f x + g y": "((f x) + (g y))", "f x . l * 2": "((f x.l) * 2)", "x - 1": "(x - 1)", "x -1": "(x - 1)", "x-1": "(x - 1)", "1 + (fun (x) -> x)": "(1 + (fun (x: ?) -> x))", "(1 + 2) * 3": "((1 + 2) * 3)", "1 * (2 + 3)": "(1 * (2 + 3))", "\"a\" ++ \"b\" ++ \"c\"": "((\"a\" ++ \"b\") ++ \"c\")",
		"1 + 2 f 3": "(1 + ((2 f) 3))", "\"+\" \"(\" \")\"": "((\"+\" \"(\") \")\")", "1 \"+\" 2": "((1 \"+\") 2)", "x \"true\" \"fun\"": "((x \"true\") \"fun\")",
		"ints defs": "(ints defs)", "{ends = 1}.ends": "{ends = 1}.ends",
	} {
		m := parsed(t, "def q = "+s+";")
		if got := parse.Print(m); got != "def q: ? = "+want+";\n" || !ast.Right(m.Defs[0].E) {
			t.Errorf("%q: %s", s, got)
		}
		checkRoundTrip(t, m)
	}
}

// P6.1 (F1): the parts themselves, not only their printed form.
func TestParts(t *testing.T) {
	dyn := func(n int) api.Type { return api.Type{{N: n}} }
	integer := api.Type{{Kind: api.Int}}
	name := func(s string) api.Part { return api.Part{Kind: api.Name, Name: s} }
	for s, want := range map[string]api.Expr{
		"42":                                 {{Kind: api.Lit, T: integer, Num: 42}},
		"true":                               {{Kind: api.Lit, T: api.Type{{Kind: api.Bool}}, Num: 1}},
		"false":                              {{Kind: api.Lit, T: api.Type{{Kind: api.Bool}}}},
		`"a\t!"`:                             {{Kind: api.Lit, T: api.Type{{Kind: api.String}}, Name: "a\t!"}},
		"()":                                 {{Kind: api.Lit, T: api.Type{{Kind: api.Unit}}}},
		"m ! x":                              {name("m!x")},
		"fun (x) -> y":                       {{Kind: api.Fun, Bind: "x", T: dyn(2)}, name("y")},
		"f x":                                {{Kind: api.App}, name("f"), name("x")},
		"let x: int = y in z":                {{Kind: api.Let, Bind: "x", T: integer}, name("y"), name("z")},
		"rec f (x): int = y in z":            {{Kind: api.Rec, Name: "f", Bind: "x", T: dyn(2), U: integer}, name("y"), name("z")},
		"rec f (x: int) = y in z":            {{Kind: api.Rec, Name: "f", Bind: "x", T: integer, U: dyn(2)}, name("y"), name("z")},
		"rec f (x) = y in z":                 {{Kind: api.Rec, Name: "f", Bind: "x", T: dyn(2), U: dyn(3)}, name("y"), name("z")},
		"if x then y else z":                 {{Kind: api.If}, name("x"), name("y"), name("z")},
		"case x of B y -> z | A w -> 1 end":  {{Kind: api.Case, Many: 2}, name("x"), {Kind: api.Branch, Label: "B", Bind: "y"}, name("z"), {Kind: api.Branch, Label: "A", Bind: "w"}, {Kind: api.Lit, T: integer, Num: 1}},
		"x ++ y":                             {{Kind: api.Op, Name: "++"}, name("x"), name("y")},
		"{b = x, a = y}":                     {{Kind: api.Rows, Many: 2}, {Kind: api.Name, Name: "x", Label: "b"}, {Kind: api.Name, Name: "y", Label: "a"}},
		"{}":                                 {{Kind: api.Rows}},
		"x.l":                                {{Kind: api.Get, Name: "l"}, name("x")},
		"[A = x]":                            {{Kind: api.Inject, Name: "A", T: dyn(2)}, name("x")},
		"[A = fun (x) -> x]":                 {{Kind: api.Inject, Name: "A", T: dyn(3)}, {Kind: api.Fun, Bind: "x", T: dyn(2)}, name("x")},
		"(x: int)":                           {{Kind: api.As, T: integer}, name("x")},
		"(fun (x) -> x: ?)":                  {{Kind: api.As, T: dyn(3)}, {Kind: api.Fun, Bind: "x", T: dyn(2)}, name("x")},
		"{a = (fun (x: {b: ?, a: ?}) -> x)}": {{Kind: api.Rows, Many: 1}, {Kind: api.Fun, Label: "a", Bind: "x", T: api.Type{{Kind: api.Record, N: 2}, {Name: "a", N: 3}, {Name: "b", N: 2}}}, name("x")},
	} {
		m := parsed(t, "def q = "+s+";")
		if !sameParts(m.Defs[0].E, want) || !slices.Equal(m.Defs[0].T, dyn(1)) {
			t.Errorf("%q: %v", s, m.Defs[0])
		}
	}
}

// P6.1 (F1): modules.
func TestModules(t *testing.T) {
	for s, want := range map[string]string{
		"": "", " # nothing\n": "", "import a;": "import a;\n", "import b;import a;": "import b;\nimport a;\n", "import m;": "import m;\n",
		"def x = 1;": "def x: ? = 1;\n", "def x: int = 1;": "def x: int = 1;\n", "def y = 1; def x = y;": "def y: ? = 1;\ndef x: ? = y;\n", "def f: ? -> {b: int, a: ?} = f;": "def f: ? -> {a: ?, b: int} = f;\n",
		"import a; import b; def a = b!a; def b = a!b; # end": "import a;\nimport b;\ndef a: ? = b!a;\ndef b: ? = a!b;\n", "def q = {a = 1, b = {a = 1}}; def a = {a = 1};": "def q: ? = {a = 1, b = {a = 1}};\ndef a: ? = {a = 1};\n",
		"import\n#c\na\n;def\tx=1;": "import a;\ndef x: ? = 1;\n",
	} {
		for _, name := range []string{"m", "", "A b!", "import"} {
			m, at, e := parse.Parse(name, s)
			if e != api.OK || at != 0 || m.Name != name || parse.Print(m) != want {
				t.Errorf("%q: %d %d %q %q", s, at, e, m.Name, parse.Print(m))
			}
			checkRoundTrip(t, m)
		}
	}
	m := parsed(t, "import b; import a; def y: int = 1; def x = y;")
	if !slices.Equal(m.Imports, []string{"b", "a"}) || len(m.Defs) != 2 || m.Defs[0].Name != "y" || m.Defs[1].Name != "x" || ty.Print(m.Defs[0].T) != "int" || ast.Print(m.Defs[1].E) != "y" {
		t.Error(m)
	}
}

// P6.1 (F1), P6.3: in a text with @ where a site is omitted, which is left out, the sites are these and the ?.
func TestSites(t *testing.T) {
	for _, s := range []string{
		"", "import a;", "def x: int = 1;", "def x@ = 1;", "def x@=1;", "def x@ # c\n = 1;", "def x: ? = 1;", "def x: ? -> {b: ?, a: (?)} = 1; def y@ = 2;",
		"def f@ = fun (x@) -> x;", "def f@ = fun ( x@ ) -> x;", "def f@ = fun (x: ?) -> fun (y@#:\n) -> fun (z: int) -> z;", "def f: ? = let x@ = let y: ? = 1 in y in let z@ = 2 in z;",
		"def f: int = rec f (x@)@ = 1 in f;", "def f: int = rec f (x: ?)@ = 1 in f;", "def f: int = rec f (x@): ? = 1 in f;", "def f: int = rec f (x: ?): ? = 1 in f;", "def f: int = rec f (x@ )@ # c\n = fun (y@) -> 1 in rec g (x: int): int = 1 in rec h ( x: ? -> ? )@ = 2 in 3;",
		"def f: int = [A = 1@];", "def f: int = [A = 1@ ];", "def f: int = [A = (f x)@ #\n ];", "def f@ = [A = [B = fun (x@) -> x.l@]@];", "def f@ = [A = [B = fun (x: ?) -> \"s\": ?]@];", "def f@ = [A = fun (x@) -> {}@].x;", "def f@ = [A = m ! x@] [A = (x: ?): ?];",
		"def f@ = (x: ?); def g@ = (fun (x@) -> (y: ? -> ?): ?); def h: ? = fun (x@) -> (x: ?) + (y: int);", "def f@ = case [A = 1@] of A x -> fun (x@) -> x | B y -> let z: ? = 1 in z end; def g@ = {a = fun (x@) -> x, b = (x: ?)};",
		"def f@ = \"?\"; # ?\n def g: ? = 1; # ?",
	} {
		var want []api.Site
		var text strings.Builder
		quiet := false // in a comment or a string
		for _, c := range s {
			quiet = c == '"' && !quiet || c == '#' || quiet && c != '"' && c != '\n'
			at := text.Len()
			switch {
			case c == '@':
				want = append(want, api.Site{From: at, To: at, Miss: true})
				continue
			case c == '?' && !quiet:
				want = append(want, api.Site{From: at, To: at + 1})
			}
			text.WriteRune(c)
		}
		m := parsed(t, text.String())
		if !slices.Equal(m.Sites, want) {
			t.Errorf("%q: %v, want %v", s, m.Sites, want)
		}
	}
}

// P6.1 (F1): each site is that of the ? at its place.
func TestSiteNumbers(t *testing.T) {
	m := parsed(t, "def f: {b: ?, a: ?} = [A = fun (x) -> (x: ? -> ?)]; def g = rec f (x: {c: ?, a: ?}) = 1 in 2;")
	e, d := m.Defs[0].E, m.Defs[1].E
	types := []api.Type{m.Defs[0].T, e[0].T, e[1].T, e[2].T, m.Defs[1].T, d[0].T, d[0].U}
	want := [][]int{{2, 1}, {6}, {3}, {4, 5}, {7}, {9, 8}, {10}}
	for i, x := range types {
		if got := numbersIn(x); !slices.Equal(got, want[i]) {
			t.Errorf("%d: %v, want %v", i, got, want[i])
		}
	}
	if len(m.Sites) != 10 {
		t.Error(m.Sites)
	}
}

// P6.1 (F1): a text may have any number of sites.
func TestManySites(t *testing.T) {
	var b strings.Builder
	for i := range 200 {
		b.WriteString("def x" + strconv.Itoa(i) + " = fun (x) -> [A = (x: ?)];")
	}
	if m := parsed(t, b.String()); len(m.Sites) != 800 || m.Defs[199].T[0].N != 797 || m.Defs[199].E[1].T[0].N != 800 {
		t.Error(len(m.Sites))
	}
}

// grouped is the printed form of names with operators in between, split at the last one of those that bind the least.
func grouped(names, ops []string) string {
	rank := map[string]int{"||": 1, "&&": 2, "<": 3, "==": 3, "+": 4, "-": 4, "++": 4, "*": 5, "/": 5}
	if len(ops) == 0 {
		return names[0]
	}
	at := 0
	for i, op := range ops {
		if rank[op] <= rank[ops[at]] {
			at = i
		}
	}
	return "(" + grouped(names[:at+1], ops[:at]) + " " + ops[at] + " " + grouped(names[at+1:], ops[at+1:]) + ")"
}

// P6.1 (F1): all sequences of up to four operators.
func TestOperators(t *testing.T) {
	all := strings.Fields("|| && < == + - ++ * /")
	names := strings.Fields("a b c d e")
	var ops []string
	var grow func()
	grow = func() {
		s := names[0]
		for i, op := range ops {
			s += " " + op + " " + names[i+1]
		}
		if m := parsed(t, "def q = "+s+";"); parse.Print(m) != "def q: ? = "+grouped(names[:len(ops)+1], ops)+";\n" {
			t.Fatalf("%s: %s", s, parse.Print(m))
		}
		if len(ops) == 4 {
			return
		}
		for _, op := range all {
			ops = append(ops, op)
			grow()
			ops = ops[:len(ops)-1]
		}
	}
	grow()
}

// P6.1 (F1): what is not permitted; ^ stands before the first offending token.
func TestForm(t *testing.T) {
	for _, s := range []string{
		"^x", "^1;", "^;", "^fun", "^:", "^\"import\" a;", "import^", "import ^;", "import ^A;", "import ^def;", "import ^1;", "import a^", "import a ^= b;", "import a^,b;", "import a^!b;", "import a;^;", "import a; ^b;",
		"def^", "def ^;", "def ^X = 1;", "def ^1 = 1;", "def ^if = 1;", "def ^int = 1;", "def ^\"x\" = 1;", "def x^", "def x^;", "def x ^1;", "def x ^-> 1;", "def x ^(y) = 1;", "def x^!y = 1;", "def x =^", "def x = ^;", "def x = 1^", "def x = 1 ^= 2;", "def x = 1; def y = 2^", "def x = 1;^;", "def x = 1; ^import a;", "def x = 1; ^x", "def x ^== 1;", "def x = 1 ^def y = 2;", "def x = 1^, y = 2;",
		"def x: ^= 1;", "def x: ^x = 1;", "def x: int^", "def x: int^;", "def x: int ^int = 1;", "def x: int -> ^= 1;", "def x: (int ^= 1;", "def x: {a: int ^= 1;", "def x: {a ^= int} = 1;", "def x: [^] = 1;", "def x: [A: int ^, B: int] = 1;", "def x:^", "def x: int ->^", "def x ^|| y = 1;",
		"def q = ^?;", "def q = 1 + ^?;", "def q = f ^?;", "def q = ^int;", "def q = ^in;", "def q = ^then;", "def q = ^end;", "def q = ^of;", "def q = ^unit;", "def q = ^A;", "def q = f ^A;", "def q = ^);", "def q = ^->;", "def q = ^:;", "def q = ^|;", "def q = ^!x;", "def q = ^.l;", "def q = ^, 1;",
		"def q = ^+ 1;", "def q = ^- 1;", "def q = 1 + ^;", "def q = 1 + ^+ 2;", "def q = 1 * ^- 2;", "def q = 1 + ^fun (x) -> x;", "def q = f ^fun (x) -> x;", "def q = 1 + ^if x then y else z;", "def q = f ^let x = 1 in x;", "def q = f ^case x of A y -> y end;", "def q = f + ^rec f (x) = 1 in f;", "def q = 1 ^| 2;", "def q = 1 ^= 2;", "def q = 1 ^-> 2;", "def q = x ^: int;", "def q = x ^, y;",
		"def q = fun ^x -> x;", "def q = fun (^) -> x;", "def q = fun (^X) -> x;", "def q = fun (^1) -> x;", "def q = fun (^(x)) -> x;", "def q = fun (x ^-> x;", "def q = fun (x ^y) -> x;", "def q = fun (x^, y) -> x;", "def q = fun (x) ^x;", "def q = fun (x) ^= x;", "def q = fun (x)^: int -> x;", "def q = fun (x) -> ^;", "def q = fun (x: ^) -> x;", "def q = fun (x: int ^= x;", "def q = fun (x: int -> ^) -> x;", "def q = fun (x^!y) -> x;", "def q = fun^", "def q = fun (^", "def q = fun (x^", "def q = fun (x)^", "def q = fun (x) ->^", "def q = fun (^true) -> 1;",
		"def q = let ^= 1 in x;", "def q = let ^(x) = 1 in x;", "def q = let x ^y = 1 in x;", "def q = let x ^in x;", "def q = let x = ^in x;", "def q = let x = 1 ^; x;", "def q = let x = 1 in ^;", "def q = let x: ^= 1 in x;", "def q = let x: int ^in x;", "def q = let x = 1 ^then x;", "def q = let ^X = 1 in x;", "def q = let^", "def q = let x = 1 in^",
		"def q = rec ^(x) = 1 in x;", "def q = rec f ^= 1 in f;", "def q = rec f ^x = 1 in f;", "def q = rec f (^) = 1 in f;", "def q = rec f (x ^= 1 in f;", "def q = rec f (x) ^-> 1 in f;", "def q = rec f (x): ^= 1 in f;", "def q = rec f (x): int -> ^1 in f;", "def q = rec f (x: ^) = 1 in f;", "def q = rec f^: int (x) = 1 in f;", "def q = rec f (x) = ^in f;", "def q = rec f (x) = 1 ^;", "def q = rec f (x) = 1 in ^;", "def q = rec ^F (x) = 1 in f;", "def q = rec f (^X) = 1 in f;", "def q = rec f (x) ^(y) = 1 in f;", "def q = rec f^!g (x) = 1 in f;",
		"def q = if ^then 1 else 2;", "def q = if x ^else 2;", "def q = if x then ^else 2;", "def q = if x then 1^;", "def q = if x then 1 else ^;", "def q = if x ^in 1;", "def q = if x then 1 ^end;", "def q = if (x ^then 1;", "def q = if x then 1 else 2 ^else 3;",
		"def q = case ^of A x -> x end;", "def q = case x ^A y -> y end;", "def q = case x of ^end;", "def q = case x of ^| A y -> y end;", "def q = case x of ^a y -> y end;", "def q = case x of A ^-> y end;", "def q = case x of A ^Y -> y end;", "def q = case x of A y ^= y end;", "def q = case x of A y ^z -> y end;", "def q = case x of A y -> ^end;", "def q = case x of A y -> ^| B y -> y end;", "def q = case x of A y -> y ^;", "def q = case x of A y -> y ^B y -> y end;", "def q = case x of A y -> y | ^end;", "def q = case x of A y -> y | ^b y -> y end;", "def q = case x of A y -> y || ^B y -> y end;", "def q = case x of A y^: int -> y end;", "def q = case x of A ^(y) -> y end;", "def q = case x of A y -> y end ^end;", "def q = case x of A y -> y ^, B y -> y end;", "def q = case x ^then A y -> y end;", "def q = case x of^",
		"def q = (^;", "def q = (1^;", "def q = (1 ^];", "def q = (1 ^, 2);", "def q = (x: ^);", "def q = (x: int^;", "def q = (x: int ^: int);", "def q = (^: int);", "def q = (x ^= 1);", "def q = f (1: ^);", "def q = ()^);", "def q = (^", "def q = (x:^", "def q = (x: int^", "def q = (x^", "def q = ((x)^;",
		"def q = {^1};", "def q = {^A = 1};", "def q = {^, a = 1};", "def q = {a^};", "def q = {a^: 1};", "def q = {a = ^};", "def q = {a = 1^;", "def q = {a = 1, ^};", "def q = {a = 1 b ^= 2};", "def q = {a = 1 ^| b = 2};", "def q = {^\"a\" = 1};", "def q = {^in = 1};", "def q = {a^.b = 1};", "def q = {a = 1,^, b = 2};", "def q = {a = 1^]", "def q = {a^!b = 1};", "def q = {^(a) = 1};", "def q = {a = 1 ^= 2};", "def q = {a = 1 ^: int};", "def q = {^", "def q = {a^", "def q = {a =^", "def q = {a = 1,^",
		"def q = [^];", "def q = [^a = 1];", "def q = [^1];", "def q = [A^];", "def q = [A^: int];", "def q = [A = ^];", "def q = [A = ^: int];", "def q = [A = 1^;", "def q = [A = 1: ^];", "def q = [A = 1: int^;", "def q = [A = 1 ^| B = 2];", "def q = [A = 1^, B = 2];", "def q = [A ^x = 1];", "def q = [A = 1: int ^: int];", "def q = [A = 1^}", "def q = [^\"A\" = 1];", "def q = [A = 1: int -> ^];", "def q = [^", "def q = [A =^", "def q = [A = 1^",
		"def q = x.^;", "def q = x.^1;", "def q = x.^L;", "def q = x.^(l);", "def q = x.^in;", "def q = x.^.l;", "def q = x.^\"l\";", "def q = x.l^!m;", "def q = x!^;", "def q = x!^1;", "def q = x!^X;", "def q = x!^(y);", "def q = x!^in;", "def q = x!y^!z;", "def q = (x)^!y;", "def q = 1^!y;", "def q = true^!y;", "def q = x.^", "def q = x!^",
	} {
		checkMarked(t, s, api.ErrForm)
	}
}

// P6.1 (F1): labels, tags and names that exist already.
func TestExists(t *testing.T) {
	for _, s := range []string{
		"import a; import ^a;", "import a; import b; import ^a", "import a; import b; import a2; import ^b!", "def x = 1; def ^x = 2;", "def x = 1; def y = 2; def ^x", "def x = 1; def ^x ?", "import a; import ^a ?", "import x; def x = 1; def y = 2; def ^y: int = 3;",
		"def q = {a = 1, ^a = 2};", "def q = {a = 1, b = 2, ^a = 3};", "def q = {a = 1, b = 2, ^b", "def q = {a = 1, ^a}", "def q = {a = {a = 1, ^a = 2}};", "def q = {a = {b = 1}, b = {a = 1}, ^a = 2};", "def q = {a = (x: int), ^a = 2};", "def q = {a = fun (x) -> x, ^a = 2};",
		"def q = case x of A y -> 1 | ^A z -> 2 end;", "def q = case x of A y -> 1 | B y -> 2 | ^B", "def q = case x of A y -> 1 | B y -> 2 | ^A end", "def q = case x of A y -> case y of A y -> y | B y -> y end | ^A y -> y end;", "def q = case case x of A y -> y end of A y -> case x of B y -> y | ^B y -> y end end;",
		"def q: {b: int, ^b: int} = 1;", "def q: [A: int | ^A: int] = 1;", "def q = fun (x: {a: {a: int}, ^a: int}) -> 1;", "def q = (x: {a: int, ^a: int});", "def q = [A = 1: [A: int | ^A: int]];", "def q = let x: {a: ?, ^a", "def q = rec f (x: {a: ?, ^a: ?", "def q = rec f (x): {a: ?, ^a: ?",
		"def x = 1; def y = {a = 1, ^a = 2}; def x = 3;", "def q = {a = 1, ^a = ?};",
	} {
		checkMarked(t, s, api.ErrExists)
	}
	for _, s := range []string{
		"import x; def x = 1;", "import m; def m = x;", "def q = {a = {a = {a = 1}}};", "def q = {a = 1} {a = 2};", "def q = {a = {b = 1}, b = {a = 1}};", "def q = {a = fun (a) -> a, b = a}.a;", "def q = {a = 1, aa = 2, aA = 3, a_ = 4};", "def q = {a = case x of A y -> {a = y} end};",
		"def q = case x of A y -> case x of A y -> y | B y -> y end | B y -> case x of A y -> y end end;", "def q = case case x of A y -> y end of A y -> y | Aa y -> y end;", "def q = [A = [A = 1: [A: int]]: [A: int]];", "def x = fun (x) -> let x = x in rec x (x) = x in x; def y = x!x;",
	} {
		checkRoundTrip(t, parsed(t, s))
	}
}

// listed are n texts, with their numbers in the place of each $, with others in between.
func listed(n int, text, between string) string {
	l := make([]string, n)
	for i := range l {
		l[i] = strings.ReplaceAll(text, "$", strconv.Itoa(i))
	}
	return strings.Join(l, between)
}

// P6.1 (F1): at most 50 labels and branches.
func TestManyLabels(t *testing.T) {
	for _, c := range [][5]string{{"{", "a$ = 1", ", ", "}", "A"}, {"case x of ", "A$ x -> x", " | ", " end", "a"}} {
		for _, n := range []int{1, 2, 49, 50} {
			m := parsed(t, "def q = "+c[0]+listed(n, c[1], c[2])+c[3]+";")
			if m.Defs[0].E[0].Many != n || !ast.Right(m.Defs[0].E) {
				t.Errorf("%d: %v", n, m.Defs[0].E[0])
			}
			checkRoundTrip(t, m)
		}
		full := "def q = " + c[0] + listed(50, c[1], c[2]) + c[2]
		label, other := c[1][:1], c[4]
		for _, after := range []string{"", " x", " = 1", " ?", "50", "50 = 1" + c[3] + ";", "50 x -> x" + c[3] + ";"} {
			checkMarked(t, full+"^"+label+after, api.ErrLarge)
		}
		checkMarked(t, full+"^"+label+"0 = 1", api.ErrExists)
		checkMarked(t, full+"^"+label+"49 ?", api.ErrExists)
		for _, s := range []string{"", other, other + "50 = 1", "?", strings.TrimSpace(c[3]), "1", "in"} {
			checkMarked(t, full+"^"+s, api.ErrForm)
		}
		inner := c[0] + listed(50, c[1], c[2]) + c[3]
		parsed(t, "def q = "+c[0]+listed(50, c[1][:len(c[1])-1]+inner, c[2])+c[3]+";")
	}
	checkMarked(t, "def q: {"+listed(50, "a$: int", ", ")+", ^a: int} = 1;", api.ErrLarge)
	checkMarked(t, "def q = (x: ["+listed(50, "A$: int", "|")+"|^A: int]);", api.ErrLarge)
}

// P6.1 (F1): at most 200 definitions, and any number of imports.
func TestManyDefs(t *testing.T) {
	for _, n := range []int{199, 200} {
		m := parsed(t, listed(n, "def x$ = $;", "\n"))
		if len(m.Defs) != n || m.Defs[n-1].Name != "x"+strconv.Itoa(n-1) || m.Defs[n-1].E[0].Num != int64(n-1) {
			t.Errorf("%d: %d", n, len(m.Defs))
		}
		checkRoundTrip(t, m)
	}
	full := listed(200, "def x$ = $;", "\n")
	for _, s := range []string{"^def x = 1;", "^def", "^def x0 = 1;", "^def ?", "^def x = 1; def y = 2;", "^def x = {a = 1, a = 2};"} {
		checkMarked(t, full+s, api.ErrLarge)
	}
	for _, s := range []string{"^import a;", "^x", "^;", "^\"def\"", "^fun"} {
		checkMarked(t, full+s, api.ErrForm)
	}
	if m := parsed(t, listed(5000, "import x$;", "")+full); len(m.Imports) != 5000 || len(m.Defs) != 200 || m.Imports[4999] != "x4999" {
		t.Error(len(m.Imports), len(m.Defs))
	}
	checkMarked(t, listed(5000, "import x$;", "")+"import ^x4999;", api.ErrExists)
}

// P6.1 (F1): the errors of layer 2 come before all others.
func TestTokens(t *testing.T) {
	for _, s := range []string{"^$", "x ^$", "def q = 1 ^$;", "def q = ? ^1a;", "import a; import a; ^1234567890123456789", "def ^\"a", "def q = \"a\" ^\"\\q\"", "def q = {a = 1, a = 2} ^é", "def q = 1 ^& 2;", "def q = 1 ^> 2;", strings.Repeat("(", 200) + "^@"} {
		checkMarked(t, s, api.ErrForm)
	}
	fill := func(s string, n int) string { return s + strings.Repeat(" ", n-len(s)) }
	parsed(t, fill("def q = 1;", api.MaxText))
	for _, s := range []string{"def q = 1;", "$", "def", "x", ""} {
		checkWrong(t, fill(s, api.MaxText+1), 0, api.ErrLarge)
	}
	checkWrong(t, fill("def q = 1", api.MaxText), api.MaxText, api.ErrForm)
	checkWrong(t, fill("def q = ;", api.MaxText), 8, api.ErrForm)
}

// P6.1 (F2): printed forms.
func TestPrint(t *testing.T) {
	lit := api.Expr{{Kind: api.Lit, T: api.Type{{Kind: api.Int}}, Num: 7}}
	fun := api.Type{{Kind: api.Arrow}, {Kind: api.Int}, {N: 3}}
	for want, m := range map[string]api.Module{
		"":            {Name: "m", Sites: []api.Site{{From: 1, To: 2}}},
		"import a;\n": {Name: "m", Imports: []string{"a"}},
		"import b;\nimport a;\ndef y: int -> ? = 7;\ndef x: ? = 7;\n": {Imports: []string{"b", "a"}, Defs: []api.Def{{Name: "y", T: fun, E: lit}, {Name: "x", T: api.Type{{N: 1}}, E: lit}}},
		"def x: int -> ? = <(7: int -> ?): int -> ? => int -> ?>;\n":  {Defs: []api.Def{{Name: "x", T: fun, E: slices.Concat(api.Expr{{Kind: api.Cast, T: fun, U: fun}, {Kind: api.As, T: fun}}, lit)}}},
	} {
		if got := parse.Print(m); got != want {
			t.Errorf("%q, want %q", got, want)
		}
	}
	if got := parse.Print(api.Module{}); got != "" {
		t.Error(got)
	}
}

// P6.1 (F2): modules are the same up to sites, and only these.
func TestSame(t *testing.T) {
	text := "import a; import b; def f: ? -> {a: ?} = fun (x: int -> ?) -> x.l + 1; def g = rec f (x) = [A = x] in (f: ? -> ?);"
	m := parsed(t, text)
	moved := parsed(t, "import a;import b;\n\ndef f:?->{a:?}=fun(x:int->?)->((x.l)+1);def g:? = rec f (x: ?):? = [A = x: ?] in (f:?->?);")
	other := parsed(t, text)
	other.Sites = nil
	for i := range other.Defs {
		other.Defs[i].T = slices.Clone(other.Defs[i].T)
		for k := range other.Defs[i].T {
			if n := &other.Defs[i].T[k]; n.Kind == api.Dyn {
				n.N += 5
			}
		}
	}
	if !parse.Same(m, m) || !parse.Same(m, moved) || !parse.Same(moved, m) || !parse.Same(m, other) || !parse.Same(other, m) || !parse.Same(api.Module{}, api.Module{}) {
		t.Error("the same")
	}
	if !parse.Same(api.Module{}, api.Module{Imports: []string{}, Defs: []api.Def{}, Sites: []api.Site{}}) || !parse.Same(api.Module{}, api.Module{Sites: []api.Site{{Miss: true}}}) {
		t.Error("nothing")
	}
	for _, s := range []string{
		"", "import a; import b;", strings.Replace(text, "import a; import b", "import b; import a", 1), strings.Replace(text, "import a; ", "", 1), "import c; " + text, strings.Replace(text, "import a", "import c", 1),
		strings.Replace(text, "f:", "h:", 1), strings.Replace(text, "{a: ?}", "{b: ?}", 1), strings.Replace(text, "{a: ?}", "{a: int}", 1), strings.Replace(text, "{a: ?}", "?", 1), strings.Replace(text, "int -> ?", "int", 1), strings.Replace(text, "+ 1", "+ 2", 1), strings.Replace(text, "+ 1", "- 1", 1), strings.Replace(text, ".l", ".m", 1),
		strings.Replace(text, "g =", "g: int =", 1), strings.Replace(text, "x]", "x: int]", 1), strings.Replace(text, "f (x)", "f (x): int", 1), strings.Replace(text, "f (x)", "f (x: int)", 1), strings.Replace(text, "(f: ? -> ?)", "f", 1), text + "def h = 1;", "import a; import b; def g = rec f (x) = [A = x] in (f: ? -> ?); def f: ? -> {a: ?} = fun (x: int -> ?) -> x.l + 1;",
	} {
		if n := parsed(t, s); parse.Same(m, n) || parse.Same(n, m) || !parse.Same(n, n) {
			t.Errorf("%q", s)
		}
	}
	renamed := m
	renamed.Name = "n"
	if parse.Same(m, renamed) || parse.Same(renamed, m) {
		t.Error("names")
	}
}

// The lists of a result share no memory, with each other or with those of another call.
func TestMemory(t *testing.T) {
	text := "import a; import b; def f: ? -> {a: ?} = fun (x) -> [A = (x: ?): [A: ? | B: int]]; def g = rec f (x) = {a = 1, b = true} in f \"s\" ();"
	want := parse.Print(parsed(t, text))
	m, n := parsed(t, text), parsed(t, text)
	sites := slices.Clone(m.Sites)
	var types []api.Type
	for _, d := range n.Defs {
		types = append(types, d.T)
		for _, p := range d.E {
			types = append(types, p.T, p.U)
		}
	}
	var before []api.Type
	for _, x := range types {
		before = append(before, slices.Clone(x))
	}
	for i, x := range types {
		x = append(x, api.Node{Kind: api.Tail, N: 99})
		for k := range x {
			x[k] = api.Node{Kind: api.Var, Name: "z", N: 77}
		}
		for k, y := range types {
			if k > i && !slices.Equal(y, before[k]) {
				t.Fatalf("%d %d", i, k)
			}
		}
	}
	for i := range n.Defs {
		e := append(n.Defs[i].E, api.Part{})
		for k := range e {
			e[k] = api.Part{Kind: -1}
		}
	}
	n.Imports[0], n.Sites[0] = "z", api.Site{From: -1}
	n.Defs[0] = api.Def{}
	if parse.Print(m) != want || !slices.Equal(m.Sites, sites) || parse.Print(parsed(t, text)) != want {
		t.Error(parse.Print(m))
	}
}
