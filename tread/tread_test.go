package tread_test

import (
	"math"
	"slices"
	"strconv"
	"strings"
	"testing"

	"leaven/api"
	"leaven/lex"
	"leaven/tread"
	"leaven/ty"
)

// toks are the tokens of a text that has no wrong ones.
func toks(t *testing.T, s string) []api.Tok {
	t.Helper()
	l, _, e := lex.Tokens(s)
	if e != api.OK {
		t.Fatalf("%q: %d", s, e)
	}
	return l
}

// marked is the printed form of a type in which the site of each ? stands behind it.
func marked(l api.Type) string {
	var sites []string
	for _, n := range l {
		if n.Kind == api.Dyn {
			sites = append(sites, strconv.Itoa(n.N))
		}
	}
	parts := strings.Split(ty.Print(l), "?")
	for i, s := range sites {
		parts[i] += "?" + s
	}
	return strings.Join(parts, "")
}

// unknownsOf are the sites that the signs ? among tokens are.
func unknownsOf(l []api.Tok) []api.Site {
	var sites []api.Site
	for _, k := range l {
		if k.Kind == api.Sign && k.Text == "?" {
			sites = append(sites, api.Site{From: k.From, To: k.To})
		}
	}
	return sites
}

// checkRead checks that a type is read from the token at on up to next, with sites from 1 on.
func checkRead(t *testing.T, s string, at, next int, want string) {
	t.Helper()
	l := toks(t, s)
	x, n, sites, wrong, e := tread.Read(l, at, 1, 1)
	if e != api.OK || wrong != 0 || n != next || marked(x) != want || !slices.Equal(sites, unknownsOf(l[at:next])) {
		t.Errorf("%q: %s %d %v %d %d, want %s %d", s, marked(x), n, sites, wrong, e, want, next)
	}
	if !ty.Right(x) {
		t.Errorf("%q: %v", s, x)
	}
}

func checkWrongTokens(t *testing.T, name string, l []api.Tok, at, level, wantAt int, want api.Errno) {
	t.Helper()
	x, n, sites, wrong, e := tread.Read(l, at, 1, level)
	if len(x) != 0 || n != 0 || len(sites) != 0 || wrong != wantAt || e != want {
		t.Errorf("%.60q at %d, level %d: %v %d %v %d %d, want %d %d", name, at, level, x, n, sites, wrong, e, wantAt, want)
	}
}

func checkWrong(t *testing.T, s string, level, wantAt int, want api.Errno) {
	t.Helper()
	checkWrongTokens(t, s, toks(t, s), 0, level, wantAt, want)
}

// P4.1 (D1): the syntax.
func TestRead(t *testing.T) {
	for s, want := range map[string]string{
		"?": "?1", "int": "int", "bool": "bool", "string": "string", "unit": "unit",
		"int -> bool": "int -> bool", "int -> bool -> string": "int -> bool -> string", "int -> (bool -> unit)": "int -> bool -> unit",
		"(int -> bool) -> unit": "(int -> bool) -> unit", "((int -> int) -> int) -> int": "((int -> int) -> int) -> int",
		"(int)": "int", "((?))": "?1", "(int) -> (bool)": "int -> bool", "(int -> int)": "int -> int", "({})": "{}",
		"{}": "{}", "{a: int}": "{a: int}", "{b: int, a: bool}": "{a: bool, b: int}", "{aa: int, a_: unit, aB: bool, a: string, a10: int, a2: unit}": "{a: string, a10: int, a2: unit, aB: bool, a_: unit, aa: int}",
		"{a: {a: {a: {}}}}": "{a: {a: {a: {}}}}", "{b: {a: int, b: int}, a: {b: int, a: int}}": "{a: {a: int, b: int}, b: {a: int, b: int}}",
		"{a: int -> int, b: (int -> int) -> int}": "{a: int -> int, b: (int -> int) -> int}", "{f: (int)}": "{f: int}",
		"[A: int]": "[A: int]", "[B: int | A: bool]": "[A: bool | B: int]", "[C: unit | A: [C: unit | B: {}] | B: int -> int]": "[A: [B: {} | C: unit] | B: int -> int | C: unit]",
		"[A: [A: [A: int]]]": "[A: [A: [A: int]]]", "{a: int} -> [A: int] -> {}": "{a: int} -> [A: int] -> {}", "({a: int} -> int) -> int": "({a: int} -> int) -> int",
		"? -> ?": "?1 -> ?2", "(? -> ?) -> ?": "(?1 -> ?2) -> ?3", "{b: ?, a: ?}": "{a: ?2, b: ?1}", "? -> {b: ?, a: int}": "?1 -> {a: int, b: ?2}",
		"{c: ? -> ?, a: {z: ?, y: ?}, b: [B: ? | A: ?]}": "{a: {y: ?4, z: ?3}, b: [A: ?6 | B: ?5], c: ?1 -> ?2}",
		"{ints: int, defs: unit}":                        "{defs: unit, ints: int}",
	} {
		checkRead(t, s, 0, len(toks(t, s))-1, want)
	}
}

// P4.1 (D1): a type is read from any token on, as far as possible.
func TestReadStops(t *testing.T) {
	checkRead(t, "x : ? = 1", 2, 3, "?1")
	checkRead(t, "? ? ?", 1, 2, "?1")
	checkRead(t, "int int", 0, 1, "int")
	checkRead(t, "int int", 1, 2, "int")
	checkRead(t, "? -> int) -> int", 0, 3, "?1 -> int")
	checkRead(t, "(? -> int) -> int", 1, 4, "?1 -> int")
	checkRead(t, "{a: ? , b: int}", 3, 4, "?1")
	checkRead(t, "[A: int] | int", 0, 5, "[A: int]")
	checkRead(t, "(int))", 0, 3, "int")
	for _, s := range []string{"? = ?", "? , ?", "? ; ?", "? ) ?", "? } ?", "? ] ?", "? | ?", "? : ?", "? . ?", "? x ?", "? X ?", "? 1 ?", "? \"->\" ?", "? ( ?", "? { ?", "? [ ?", "? let ?", "? || ?", "? ! ?", "? ?"} {
		checkRead(t, s, 0, 1, "?1")
		checkRead(t, "{} -> "+s, 0, 4, "{} -> ?1")
	}
}

// P4.1 (D1), P4.3: the sites have the numbers from the given one on, in the order of the text.
func TestReadNumbersSites(t *testing.T) {
	l := toks(t, "{c: ?,#\n b:?->(?), a: [B: {} | A: ?]} -> ?")
	want := []api.Site{{From: 4, To: 5}, {From: 11, To: 12}, {From: 15, To: 16}, {From: 34, To: 35}, {From: 41, To: 42}}
	for _, site := range []int{1, 2, 7, 1000, math.MaxInt - 4} {
		x, n, sites, at, e := tread.Read(l, 0, site, 1)
		text := func(k int) string { return "?" + strconv.Itoa(site+k) }
		form := "{a: [A: " + text(3) + " | B: {}], b: " + text(1) + " -> " + text(2) + ", c: " + text(0) + "} -> " + text(4)
		if e != api.OK || n != len(l)-1 || at != 0 || marked(x) != form || !slices.Equal(sites, want) {
			t.Errorf("%d: %s %d %v %d %d", site, marked(x), n, sites, at, e)
		}
	}
	if x, _, sites, _, e := tread.Read(toks(t, "? -> ?"), 0, math.MaxInt, 1); e != api.OK || len(x) != 3 || x[1].N != math.MaxInt || x[2].N != math.MinInt || len(sites) != 2 {
		t.Errorf("%v %v %d", x, sites, e)
	}
	if x, n, sites, at, e := tread.Read(toks(t, "x : ? = 1"), 2, 7, 3); e != api.OK || marked(x) != "?7" || n != 3 || at != 0 || !slices.Equal(sites, []api.Site{{From: 4, To: 5}}) {
		t.Errorf("%v %d %v %d %d", x, n, sites, at, e)
	}
}

// P4.1 (D1): what is not permitted.
func TestReadOfWrongTokens(t *testing.T) {
	for s, at := range map[string]int{
		"": 0, "x": 0, "X": 0, "1": 0, "\"int\"": 0, "->": 0, "-> int": 0, ")": 0, "}": 0, "]": 0, ",": 0, ":": 0, "|": 0, "=": 0, "true": 0, "fun": 0, "def": 0, "end": 0, "!": 0, "x: int": 0,
		"int ->": 2, "int -> ->": 2, "int -> x": 2, "int -> )": 2, "int -> int ->": 4, "? -> ? -> X": 4,
		"(": 1, "()": 1, "(int": 2, "(int,": 2, "(int}": 2, "(int int)": 2, "((int)": 4, "(int ->": 3, "(int -> )": 3, "(x)": 1, "(-> int)": 1, "(int]": 2, "(:": 1,
		"{": 1, "{,}": 1, "{]": 1, "{)": 1, "{a": 2, "{a}": 2, "{a,": 2, "{a int}": 2, "{a = int}": 2, "{a:": 3, "{a:}": 3, "{a:,": 3, "{a: x}": 3, "{a: int": 4, "{a: int)": 4, "{a: int]": 4, "{a: int | b: int}": 4, "{a: int;": 4, "{a: int b: int}": 4, "{a: int,": 5, "{a: int,}": 5, "{a: int,, b: int}": 5, "{a: int, B: int}": 5, "{a: int, b}": 6, "{a: int -> }": 5,
		"{A: int}": 1, "{1: int}": 1, "{\"a\": int}": 1, "{int: int}": 1, "{a: int, unit: int}": 5, "{fun: int}": 1, "{a: int, let: int}": 5, "{?}": 1, "{?: int}": 1, "{(a): int}": 1, "{a: {b: int, }": 8, "{a: {b}}": 5, "{{}}": 1,
		"[": 1, "[]": 1, "[|": 1, "[}": 1, "[)": 1, "[A": 2, "[A]": 2, "[A |": 2, "[A int]": 2, "[A = int]": 2, "[A:": 3, "[A:]": 3, "[A: |": 3, "[A: x]": 3, "[A: int": 4, "[A: int)": 4, "[A: int}": 4, "[A: int, B: int]": 4, "[A: int || B: int]": 4, "[A: int B: int]": 4, "[A: int |": 5, "[A: int |]": 5, "[A: int | | B: int]": 5, "[A: int | b: int]": 5, "[A: int | B]": 6,
		"[a: int]": 1, "[1: int]": 1, "[\"A\": int]": 1, "[int: int]": 1, "[?]": 1, "[[A: int]]": 1, "[A: []]": 4, "[A: [B: int | ]": 8,
		"{a: ?, b: ? -> (? -> }": 12, "[A: ? | B: {a: ?} ?": 12,
	} {
		checkWrong(t, s, 1, at, api.ErrForm)
		checkWrongTokens(t, s, append(toks(t, "? = "), toks(t, s)...), 3, 1, at+3, api.ErrForm)
	}
}

// P4.1 (D1): no more tokens are an error at their number, also beyond it.
func TestReadOfNoMoreTokens(t *testing.T) {
	for _, at := range []int{0, 1, 2, 1000, math.MaxInt} {
		checkWrongTokens(t, "", nil, at, 1, 0, api.ErrForm)
		checkWrongTokens(t, "", []api.Tok{}, at, 1, 0, api.ErrForm)
	}
	for _, s := range []string{"int", "? -> ?", "{a: int}"} {
		l := toks(t, s)
		for _, at := range []int{len(l), len(l) + 1, len(l) + 1000, math.MaxInt} {
			checkWrongTokens(t, s, l, at, 1, len(l), api.ErrForm)
		}
		checkWrongTokens(t, s, l, len(l)-1, 1, len(l)-1, api.ErrForm)
		bare := l[:len(l)-1]
		if x, n, _, at, e := tread.Read(bare, 0, 1, 1); e != api.OK || n != len(bare) || at != 0 || !ty.Right(x) {
			t.Errorf("%q: %v %d %d %d", s, x, n, at, e)
		}
	}
	for _, s := range []string{"int ->", "(", "(int", "{", "{a", "{a:", "{a: int", "{a: int,", "[", "[A", "[A:", "[A: int", "[A: int |", "(int ->", "{a: int -> (int"} {
		l := toks(t, s)
		checkWrongTokens(t, s, l[:len(l)-1], 0, 1, len(l)-1, api.ErrForm)
	}
}

// P4.1 (D1): negative indices, and numbers and levels below 1, before everything else.
func TestReadOfWrongArguments(t *testing.T) {
	for _, s := range []string{"int", "", "(", "{a: int, a: int}"} {
		l := toks(t, s)
		for _, c := range [][3]int{{-1, 1, 1}, {math.MinInt, 1, 1}, {0, 0, 1}, {0, -1, 1}, {0, math.MinInt, 1}, {0, 1, 0}, {0, 1, -1}, {0, 1, math.MinInt}, {9, 0, 1}, {9, 1, 0}, {-1, 0, 0}, {0, 0, 100}} {
			if x, n, sites, at, e := tread.Read(l, c[0], c[1], c[2]); len(x) != 0 || n != 0 || len(sites) != 0 || at != 0 || e != api.ErrArg {
				t.Errorf("%q %v: %v %d %v %d %d", s, c, x, n, sites, at, e)
			}
		}
	}
}

// P4.1 (D1): the kind of a token counts, and so does whether its text is a word or a tag.
func TestReadOfOtherTokens(t *testing.T) {
	sign := func(s string) api.Tok { return api.Tok{Kind: api.Sign, Text: s} }
	integer, end := api.Tok{Kind: api.Key, Text: "int"}, api.Tok{}
	for kind := -2; kind < 9; kind++ {
		for _, s := range []string{"int", "unit", "?", "(", "{", "[", "", "a", "A"} {
			right := kind == api.Key && (s == "int" || s == "unit") || kind == api.Sign && s == "?"
			opens := kind == api.Sign && strings.Contains("({[", s) && s != ""
			l := []api.Tok{{Kind: kind, Text: s}, end}
			if x, n, _, _, e := tread.Read(l, 0, 1, 1); right && (e != api.OK || n != 1 || len(x) != 1) {
				t.Errorf("%d %q: %v %d %d", kind, s, x, n, e)
			} else if opens {
				checkWrongTokens(t, s, l, 0, 1, 1, api.ErrForm)
			} else if !right {
				checkWrongTokens(t, s, l, 0, 1, 0, api.ErrForm)
			}
		}
		for _, s := range []string{"->", ")"} {
			if kind != api.Sign {
				checkWrongTokens(t, s, []api.Tok{sign("("), integer, {Kind: kind, Text: s}, integer, sign(")"), end}, 0, 1, 2, api.ErrForm)
			}
		}
		for _, s := range []string{"a", "int", "aB_0", "A", "Int", "AB_0", "", "_a", "0a", "a b", "a!b", "é", "a\xff", "A:", "?"} {
			word := kind == api.Word && slices.Contains([]string{"a", "int", "aB_0"}, s)
			tag := kind == api.Tag && slices.Contains([]string{"A", "Int", "AB_0"}, s)
			label := api.Tok{Kind: kind, Text: s}
			checkLabel(t, []api.Tok{sign("{"), label, sign(":"), integer, sign("}"), end}, word)
			checkLabel(t, []api.Tok{sign("["), label, sign(":"), integer, sign("]"), end}, tag)
		}
	}
}

// checkLabel checks that the token at 1, within brackets, is a label of a child that is an int, or not permitted.
func checkLabel(t *testing.T, l []api.Tok, right bool) {
	t.Helper()
	if !right {
		checkWrongTokens(t, l[1].Text, l, 0, 1, 1, api.ErrForm)
	} else if x, n, sites, _, e := tread.Read(l, 0, 1, 1); e != api.OK || n != 5 || len(sites) != 0 || len(x) != 2 || x[0].N != 1 || x[1] != (api.Node{Kind: api.Int, Name: l[1].Text}) {
		t.Errorf("%v: %v %d %d", l[1], x, n, e)
	}
}

// P4.1 (D1): labels that occurred already.
func TestReadOfEqualLabels(t *testing.T) {
	for s, at := range map[string]int{
		"{a: int, a: int}": 5, "{a: int, b: int, a: int}": 9, "{b: ?, a: ?, b: ?, a: ?}": 9, "{a: int, a": 5, "{a: int, a,": 5, "{a: int, a: x}": 5, "{b: {a: int, a: int}}": 8, "{a: {a: int}, a: int}": 9, "{a: int} -> {a: int, a: int}": 11,
		"{a: (int -> int), b: [A: int], a: int}": 17, "{a: {b: int, a: int}, b: int, b: int}": 17, "({a: int, a: int": 6,
		"[A: ? | A: ?]": 5, "[A: ? | B: ? | A: ?]": 9, "[A: ? | A": 5, "[A: ? | A |": 5, "[A: [A: ?] | A: ?]": 9, "{a: [A: int | A: int]}": 8, "[A: {a: int, a: int}]": 8,
	} {
		checkWrong(t, s, 1, at, api.ErrExists)
	}
	checkRead(t, "{a: {a: int}} -> {a: int}", 0, 15, "{a: {a: int}} -> {a: int}")
	checkRead(t, "{a: {b: int}, b: {a: int}}", 0, 17, "{a: {b: int}, b: {a: int}}")
	checkRead(t, "[A: [A: int] | B: [A: int | B: int]]", 0, 21, "[A: [A: int] | B: [A: int | B: int]]")
	checkRead(t, "{a: int, aA: int, aa: int, a_: int, a0: int}", 0, 21, "{a: int, a0: int, aA: int, a_: int, aa: int}")
}

// rowText is the text of a record or a union, with n labels that descend.
func rowText(prefix string, n int, child func(k int) string) string {
	brackets, between := "{}", ","
	if prefix < "a" {
		brackets, between = "[]", "|"
	}
	var l []string
	for k := range n {
		l = append(l, prefix+strconv.Itoa(99-k)+":"+child(k))
	}
	return brackets[:1] + strings.Join(l, between) + brackets[1:]
}

// P4.1 (D1): at most 50 labels.
func TestReadOfManyLabels(t *testing.T) {
	integer := func(int) string { return "int" }
	for _, prefix := range []string{"a", "A"} {
		for _, n := range []int{1, 49, 50} {
			s := rowText(prefix, n, integer)
			x, next, _, _, e := tread.Read(toks(t, s), 0, 1, 1)
			if e != api.OK || next != 4*n+1 || !ty.Right(x) || x[0].N != n || x[1].Name != prefix+strconv.Itoa(100-n) || x[n].Name != prefix+"99" {
				t.Errorf("%s: %v %d", s, x, e)
			}
		}
		for _, n := range []int{51, 52, 90} {
			s := rowText(prefix, n, integer)
			checkWrong(t, s, 1, 201, api.ErrLarge)
			checkWrong(t, "int -> "+s, 1, 203, api.ErrLarge)
			checkWrong(t, "{b: "+s, 1, 204, api.ErrLarge)
		}
		s := rowText(prefix, 50, integer)
		full := s[:len(s)-1] + map[string]string{"a": ", ", "A": "| "}[prefix]
		checkWrong(t, full, 1, 201, api.ErrForm)
		checkWrong(t, full+s[len(s)-1:], 1, 201, api.ErrForm)
		checkWrong(t, full+"1", 1, 201, api.ErrForm)
		checkWrong(t, full+prefix, 1, 201, api.ErrLarge)
		checkWrong(t, full+prefix+" ? ?", 1, 201, api.ErrLarge)
		checkWrong(t, full+prefix+"99: int", 1, 201, api.ErrExists)
		checkWrong(t, full+prefix+"50: int", 1, 201, api.ErrExists)
		checkWrong(t, full+map[string]string{"a": "A", "A": "a"}[prefix], 1, 201, api.ErrForm)
		inner := rowText(prefix, 50, func(k int) string { return rowText("b", k+1, integer) })
		if x, _, _, _, e := tread.Read(toks(t, inner), 0, 1, 1); e != api.OK || !ty.Right(x) || len(x) != 51+50*51/2 {
			t.Errorf("%s: %d", prefix, e)
		}
	}
}

// P4.1 (D1): what contains something, at which level.
func TestReadAtLevels(t *testing.T) {
	for _, level := range []int{1, 2, api.MaxDeep - 1, api.MaxDeep, api.MaxDeep + 1, 1 << 20, math.MaxInt} {
		for _, s := range []string{"?", "int", "unit"} {
			if x, n, _, at, e := tread.Read(toks(t, s), 0, 1, level); e != api.OK || n != 1 || at != 0 || len(x) != 1 {
				t.Errorf("%q at %d: %d", s, level, e)
			}
		}
		for s, at := range map[string]int{"int -> int": 1, "int ->": 1, "int -> x": 1, "(int)": 0, "(": 0, "(x": 0, "{}": 0, "{": 0, "{A": 0, "{a: int}": 0, "[A: int]": 0, "[": 0, "[]": 0} {
			if level >= api.MaxDeep {
				checkWrong(t, s, level, at, api.ErrDeep)
			} else if _, _, _, _, e := tread.Read(toks(t, s), 0, 1, level); e == api.ErrDeep {
				t.Errorf("%q at %d", s, level)
			}
		}
		for _, s := range []string{"->", "-> int", ")", "]", "}", "x", ""} {
			checkWrong(t, s, level, 0, api.ErrForm)
		}
	}
	for s, at := range map[string]int{
		"int -> int -> int": 3, "int -> (int)": 2, "int -> {}": 2, "int -> [A: int]": 2, "int -> {": 2, "((int))": 1, "(int -> int)": 2, "({})": 1, "([A: int])": 1, "{a: (int)}": 3, "{a: {}}": 3, "{a: [A: int]}": 3, "{a: int -> int}": 4, "{a: int, b: int -> int}": 8, "{a: int, b: {": 7,
		"[A: {}]": 3, "[A: (int)]": 3, "[A: [A: int]]": 3, "[A: int -> int]": 4, "[A: int | B: int -> int]": 8, "(int) -> {}": 4, "{} -> int -> int": 4, "{} -> {}": 3,
	} {
		checkWrong(t, s, api.MaxDeep-1, at, api.ErrDeep)
		if x, _, _, _, e := tread.Read(toks(t, s), 0, 1, api.MaxDeep-2); strings.HasSuffix(s, "{") != (e == api.ErrForm) || e == api.OK != ty.Right(x) {
			t.Errorf("%q: %d", s, e)
		}
	}
	for _, s := range []string{"(int) -> int", "{} -> int", "{a: int} -> int", "[A: int | B: int] -> int", "{a: int, b: ?}", "(int)", "int -> int"} {
		if x, _, _, _, e := tread.Read(toks(t, s), 0, 1, api.MaxDeep-1); e != api.OK || ty.Print(x) != strings.ReplaceAll(s, "(int)", "int") {
			t.Errorf("%q: %v %d", s, x, e)
		}
	}
}

// opener is text that leads to the next level, and what ends that; opens is the index of its first token that does so.
type opener struct {
	text, last    string
	tokens, opens int
}

// openers are all ways to the next level, with other things before them.
func openers() []opener {
	return []opener{
		{"(", ")", 1, 0}, {"int -> ", "", 2, 1}, {"{a: ", "}", 3, 0}, {"[A: ", "]", 3, 0}, {"{b: ?, a: ", "}", 7, 0}, {"{a: ", ", b: ?}", 3, 0}, {"[B: ? | A: ", "]", 7, 0},
		{"(int) -> ", "", 4, 0}, {"{} -> ", "", 3, 0},
	}
}

// nested is a text in which n of these levels are one in the other, from the one with the index first on, and the index of the token that leads to the last one.
func nested(n, first, step int) (string, int) {
	text, last := "", ""
	tokens, at := 0, 0
	for i := range n {
		o := openers()[(first+i*step)%len(openers())]
		text, last = text+o.text, o.last+last
		tokens, at = tokens+o.tokens, tokens+o.opens
	}
	return text + "?" + last, at
}

// P4.1 (D1): tokens that lead to a level up to MaxDeep are permitted, and the first one beyond is not.
func TestReadOfDeepTokens(t *testing.T) {
	for first := range openers() {
		for step := range 4 {
			for _, level := range []int{1, 2, 3, 50, api.MaxDeep - 2, api.MaxDeep - 1} {
				s, _ := nested(api.MaxDeep-level, first, step)
				if x, n, _, _, e := tread.Read(toks(t, s), 0, 1, level); e != api.OK || n != len(toks(t, s))-1 || !ty.Right(x) {
					t.Errorf("%.60q at %d: %d %d", s, level, n, e)
				}
				for _, more := range []int{1, 2, 1000} {
					s, _ := nested(api.MaxDeep-level+more, first, step)
					_, at := nested(api.MaxDeep-level+1, first, step)
					checkWrong(t, s, level, at, api.ErrDeep)
				}
			}
		}
	}
}

// deep is the text of a type of this depth. Its levels are half as many, as what stands before an arrow is not at a level of its own.
func deep(depth int) string {
	s := "int"
	if depth%2 == 0 {
		s = "{} -> int"
	}
	n := (depth - 1) / 2
	return strings.Repeat("{a: ", n) + s + strings.Repeat("} -> int", n)
}

// P4.1 (D1): types that are too deep are an error at their first token, but only if no token is offending.
func TestReadOfDeepTypes(t *testing.T) {
	for _, depth := range []int{1, 2, 3, api.MaxDeep - 1, api.MaxDeep} {
		if x, _, _, _, e := tread.Read(toks(t, deep(depth)), 0, 1, 1); e != api.OK || !ty.Right(x) {
			t.Errorf("%d: %d", depth, e)
		}
	}
	for _, depth := range []int{api.MaxDeep + 1, api.MaxDeep + 2, 150, 2*api.MaxDeep - 3} {
		s := deep(depth)
		n := len(toks(t, s)) - 1
		checkWrong(t, s, 1, 0, api.ErrDeep)
		checkWrong(t, s+" x", 1, 0, api.ErrDeep)
		checkWrongTokens(t, s, append(toks(t, "? ? ?"), toks(t, s)...), 4, 1, 4, api.ErrDeep)
		checkWrong(t, "? -> "+s+" -> ", 1, n+3, api.ErrForm)
		checkWrong(t, "("+s, 1, n+1, api.ErrForm)
		checkWrong(t, "("+s+")", 1, 0, api.ErrDeep)
		checkWrong(t, "{a: "+s+", a: int}", 1, n+4, api.ErrExists)
		checkWrong(t, "{a: "+s+", b: int}", 1, 0, api.ErrDeep)
		checkWrong(t, "[B: "+s+" | A: "+s+" | ]", 1, 2*n+7, api.ErrForm)
	}
	if x, _, _, _, e := tread.Read(toks(t, deep(api.MaxDeep)), 0, 1, 50); e != api.OK || !ty.Right(x) {
		t.Errorf("%d", e)
	}
	checkWrong(t, deep(api.MaxDeep), 51, 49*3, api.ErrDeep)
}

// wide is the text of a type of n nodes, more than 2600, with some ?.
func wide(n int) string {
	part := func(int) string { return rowText("b", 50, func(int) string { return "?" }) } // 51 nodes
	text, left := "int", n-1
	for left > 2600 {
		text, left = rowText("a", 50, part)+" -> "+text, left-2552
	}
	for left > 52 {
		text, left = part(0)+" -> "+text, left-52
	}
	for left >= 2 {
		text, left = "? -> "+text, left-2
	}
	if left == 1 {
		text = "{a: " + text + "}"
	}
	return text
}

// P4.1 (D1): at most MaxNodes nodes; more of them are an error at the first token, but only if no token is offending.
func TestReadOfLargeTypes(t *testing.T) {
	for _, n := range []int{3000, api.MaxNodes - 2, api.MaxNodes - 1, api.MaxNodes} {
		l := toks(t, wide(n))
		x, next, sites, at, e := tread.Read(l, 0, 1, 1)
		if e != api.OK || next != len(l)-1 || at != 0 || !ty.Right(x) || len(x) != n || !slices.Equal(sites, unknownsOf(l)) {
			t.Errorf("%d: %d %d %d", n, len(x), len(sites), e)
		}
	}
	for _, nodes := range []int{api.MaxNodes + 1, api.MaxNodes + 2, api.MaxNodes + 3000} {
		s := wide(nodes)
		n := len(toks(t, s)) - 1
		checkWrong(t, s, 1, 0, api.ErrLarge)
		checkWrong(t, s+" x", 1, 0, api.ErrLarge)
		checkWrongTokens(t, s, append(toks(t, "? ?"), toks(t, s)...), 3, 1, 3, api.ErrLarge)
		checkWrong(t, "("+s, 1, n+1, api.ErrForm)
		checkWrong(t, "{a: "+s+", a: int}", 1, n+4, api.ErrExists)
		checkWrong(t, "[A: "+s+" | B: x]", 1, n+6, api.ErrForm)
		checkWrong(t, "("+s+") -> "+strings.Repeat("(", 200), 1, n+3+98, api.ErrDeep)
		checkWrong(t, "{a: "+s+", b: "+deep(130)+"}", 1, 0, api.ErrLarge)
		checkWrong(t, "{b: "+deep(130)+", a: "+s+"}", 1, 0, api.ErrLarge)
	}
}

// P4.1 (D2): all tokens except the last one.
func TestOf(t *testing.T) {
	for s, want := range map[string]string{
		"?": "?1", "int": "int", "? -> {b: ?, a: int}": "?1 -> {a: int, b: ?2}", "(? -> int) -> {b: ?, a: [B: unit | A: string]}": "(?1 -> int) -> {a: [A: string | B: unit], b: ?2}",
		" # c\n ( ? ) # d": "?1", "{b: ?, a: ?}": "{a: ?2, b: ?1}", strings.Repeat("? -> ", 99) + "?": "-",
	} {
		l := toks(t, s)
		x, sites, e := tread.Of(l)
		if e != api.OK || !slices.Equal(sites, unknownsOf(l)) || marked(x) != want && want != "-" || !ty.Right(x) {
			t.Errorf("%q: %s %v %d", s, marked(x), sites, e)
		}
	}
}

func TestOfRefuses(t *testing.T) {
	for s, want := range map[string]api.Errno{
		"": api.ErrForm, "int int": api.ErrForm, "? ?": api.ErrForm, "int)": api.ErrForm, "int = 1": api.ErrForm, "int,": api.ErrForm, "{} {}": api.ErrForm, "int ->": api.ErrForm, "x": api.ErrForm, "(int": api.ErrForm, "[]": api.ErrForm, "x: int": api.ErrForm,
		"{a: int, a: int}": api.ErrExists, "{a: int, a: int} x": api.ErrExists, "{a: int} {a: int, a: int}": api.ErrForm,
		strings.Repeat("? -> ", 100) + "?": api.ErrDeep, deep(101): api.ErrDeep, deep(130) + " x": api.ErrDeep, deep(130) + ")": api.ErrDeep,
		rowText("a", 51, func(int) string { return "?" }): api.ErrLarge, wide(api.MaxNodes + 1): api.ErrLarge, wide(api.MaxNodes+1) + " 1": api.ErrLarge,
	} {
		if x, sites, e := tread.Of(toks(t, s)); len(x) != 0 || len(sites) != 0 || e != want {
			t.Errorf("%.60q: %v %v %d, want %d", s, x, sites, e, want)
		}
	}
	integer := api.Tok{Kind: api.Key, Text: "int"}
	for _, l := range [][]api.Tok{nil, {}, {{}}, {{}, {}}, {{}, integer, {}}, {integer, {}, {}}, {integer, {}, integer, {}}, {integer}, {integer, integer}} {
		if x, sites, e := tread.Of(l); len(x) != 0 || len(sites) != 0 || e != api.ErrForm {
			t.Errorf("%v: %v %v %d", l, x, sites, e)
		}
	}
}

// frame is a bracket that is open: its text, the level at which it was read, and its labels.
type frame struct {
	open   string
	level  int
	labels []string
}

// follow goes along tokens with a stack of brackets, and returns the index after the type, or the first offending one and its error.
func follow(l []string, level int) (int, int, api.Errno) {
	var stack []frame
	state := "type"
	for i, s := range append(slices.Clone(l), "") {
		top := frame{}
		if len(stack) > 0 {
			top = stack[len(stack)-1]
		}
		opens := s == "(" || s == "{" || s == "["
		closes := s == ")" && top.open == "(" || s == "}" && top.open == "{" || s == "]" && top.open == "["
		label := s == "a" || s == "b"
		if top.open == "[" {
			label = s == "A" || s == "B"
		}
		switch {
		case state == "type" && opens || state == "after" && s == "->":
			if level >= api.MaxDeep {
				return 0, i, api.ErrDeep
			}
			if opens {
				stack = append(stack, frame{open: s, level: level})
			}
			level++
			state = map[string]string{"(": "type", "{": "label or end", "[": "label", "->": "type"}[s]
		case state == "type" && (s == "?" || s == "int"):
			state = "after"
		case state == "after" && closes || state == "label or end" && closes:
			level, stack, state = top.level, stack[:len(stack)-1], "after"
		case state == "after" && (s == "," && top.open == "{" || s == "|" && top.open == "["):
			level, state = top.level+1, "label"
		case strings.HasPrefix(state, "label") && label:
			if slices.Contains(top.labels, s) {
				return 0, i, api.ErrExists
			}
			stack[len(stack)-1].labels = append(slices.Clone(top.labels), s)
			state = "colon"
		case state == "colon" && s == ":":
			state = "type"
		case state == "after" && len(stack) == 0:
			return i, 0, api.OK
		default:
			return 0, i, api.ErrForm
		}
	}
	return 0, 0, api.OK
}

// P4.1 (D1): all short sequences of tokens, held against a parser that works with a stack.
func TestReadOfAllShortTokens(t *testing.T) {
	texts := strings.Fields("? int -> ( ) { } [ ] , | : a b A B")
	tokenOf := map[string]api.Tok{}
	for _, s := range texts {
		tokenOf[s] = toks(t, s)[0]
	}
	var l []string
	var tokens []api.Tok
	var grow func(left int)
	grow = func(left int) {
		for _, level := range []int{1, api.MaxDeep - 2, api.MaxDeep - 1, api.MaxDeep} {
			x, n, sites, at, e := tread.Read(tokens, 0, 1, level)
			wantN, wantAt, want := follow(l, level)
			if n != wantN || at != wantAt || e != want || e == api.OK != ty.Right(x) || len(sites) != len(unknownsOf(tokens[:n])) {
				t.Fatalf("%q at %d: %v %d %v %d %d, want %d %d %d", l, level, x, n, sites, at, e, wantN, wantAt, want)
			}
		}
		n, at, e := follow(l, 1)
		if left == 0 || e == api.OK && n < len(l) || e != api.OK && at < len(l) { // more tokens change nothing
			return
		}
		for _, s := range texts {
			l, tokens = append(l, s), append(tokens, tokenOf[s])
			grow(left - 1)
			l, tokens = l[:len(l)-1], tokens[:len(tokens)-1]
		}
	}
	grow(8)
}

// sample is a text of a type, and this type, with the sites from 1 on.
type sample struct {
	text string
	t    api.Type
}

// shifted is a type whose sites begin after n others.
func shifted(l api.Type, n int) api.Type {
	l = slices.Clone(l)
	for i := range l {
		if l[i].Kind == api.Dyn {
			l[i].N += n
		}
	}
	return l
}

func sitesIn(s string) int {
	return strings.Count(s, "?")
}

// samples are texts of types with up to most leaves, empty records and brackets, with all orders of labels.
func samples(most int) [][]sample {
	bySize := make([][]sample, most+1)
	bySize[1] = []sample{
		{"?", api.Type{{N: 1}}}, {"int", api.Type{{Kind: api.Int}}}, {"string", api.Type{{Kind: api.String}}}, {"{}", api.Type{{Kind: api.Record}}},
	}
	for n := 2; n <= most; n++ {
		for _, x := range bySize[n-1] {
			bySize[n] = append(bySize[n], sample{"(" + x.text + ")", x.t}, rowOf([]string{"a"}, x), rowOf([]string{"B"}, x))
		}
		for i := 1; i < n; i++ {
			for _, x := range bySize[i] {
				for _, y := range bySize[n-i] {
					if from := x.text; x.t[0].Kind != api.Arrow || from[0] == '(' && strings.HasSuffix(from, ")") && strings.Count(from, "(") == 1 {
						bySize[n] = append(bySize[n], sample{from + " -> " + y.text, slices.Concat(api.Type{{Kind: api.Arrow}}, x.t, shifted(y.t, sitesIn(from)))})
					}
					for _, labels := range [][]string{{"a", "b"}, {"b", "a"}, {"A", "B"}, {"B", "A"}} {
						bySize[n] = append(bySize[n], rowOf(labels, x, y))
					}
				}
			}
		}
	}
	return bySize
}

// rowOf is a record or a union of children in the order of the text.
func rowOf(labels []string, l ...sample) sample {
	kind, brackets, between := api.Record, "{}", ", "
	if labels[0] < "a" {
		kind, brackets, between = api.Union, "[]", " | "
	}
	byLabel := map[string]api.Type{}
	var texts []string
	count := 0
	for i, x := range l {
		byLabel[labels[i]] = shifted(x.t, count)
		byLabel[labels[i]][0].Name = labels[i]
		texts = append(texts, labels[i]+": "+x.text)
		count += sitesIn(x.text)
	}
	t := api.Type{{Kind: kind, N: len(l)}}
	for _, s := range slices.Sorted(slices.Values(labels)) {
		t = append(t, byLabel[s]...)
	}
	return sample{brackets[:1] + strings.Join(texts, between) + brackets[1:], t}
}

// P4.1, P4.3: the type and the sites of all kinds of texts.
func TestSamples(t *testing.T) {
	for _, x := range slices.Concat(samples(4)...) {
		l := toks(t, x.text)
		got, sites, e := tread.Of(l)
		if e != api.OK || !slices.Equal(got, x.t) {
			t.Fatalf("%s: %s %d, want %s", x.text, marked(got), e, marked(x.t))
		}
		checkSites(t, x.text, got, sites)
	}
}

// checkSites checks that the sites are the ? of the text, and that their numbers are those of the ? of the type.
func checkSites(t *testing.T, s string, l api.Type, sites []api.Site) {
	t.Helper()
	last := 0
	for i, x := range sites {
		if x.Miss || x.From < last || x.To != x.From+1 || s[x.From:x.To] != "?" {
			t.Fatalf("%s: %v", s, sites)
		}
		last = x.To
		if n := slices.IndexFunc(l, func(n api.Node) bool { return n.Kind == api.Dyn && n.N == i+1 }); n < 0 {
			t.Fatalf("%s: %d", s, i+1)
		}
	}
	unknowns := 0
	for _, n := range l {
		if n.Kind == api.Dyn {
			unknowns++
		}
	}
	if unknowns != len(sites) || unknowns != sitesIn(s) {
		t.Fatalf("%s: %d, %v", s, unknowns, sites)
	}
}

// checkRoundTrip checks that the printed form of a type is read as this type.
func checkRoundTrip(t *testing.T, l api.Type) {
	t.Helper()
	s := ty.Print(l)
	got, sites, e := tread.Of(toks(t, s))
	if e != api.OK || !ty.Same(got, l) {
		t.Fatalf("%.100s: %.100s %d", s, ty.Print(got), e)
	}
	checkSites(t, s, got, sites)
}

// P4.2: the printed form of a type is read as this type, also at the limits.
func TestRoundTrip(t *testing.T) {
	for _, x := range slices.Concat(samples(4)...) {
		checkRoundTrip(t, x.t)
	}
	top := api.Type{{Kind: api.Bool}}
	left, right, mixed, record, union := top, top, top, top, top
	for depth := 2; depth <= api.MaxDeep; depth++ {
		left, right = ty.Arrow(left, top), ty.Arrow(api.Type{{N: 5}}, right)
		record, _ = ty.Row(api.Record, []string{"b", "a"}, []api.Type{record, top})
		union, _ = ty.Row(api.Union, []string{"B", "C"}, []api.Type{union, {{}}})
		switch depth % 3 {
		case 0:
			mixed = ty.Arrow(mixed, top)
		case 1:
			mixed, _ = ty.Row(api.Record, []string{"f"}, []api.Type{mixed})
		case 2:
			mixed = ty.Arrow(top, mixed)
		}
		for _, l := range []api.Type{left, right, record, union, mixed} {
			checkRoundTrip(t, l)
		}
	}
	for _, n := range []int{3000, api.MaxNodes} {
		l, _, _ := tread.Of(toks(t, wide(n)))
		if len(l) != n {
			t.Fatalf("%d: %d", n, len(l))
		}
		checkRoundTrip(t, l)
	}
}

// Arguments stay as they are, also beyond their lengths, and results are new.
func TestMemory(t *testing.T) {
	whole := toks(t, "{b: ? -> int, a: [B: ? | A: (?)]} -> ? x y z")
	before := slices.Clone(whole)
	l := whole[:23]
	x, n, sites, _, e := tread.Read(l, 0, 3, 1)
	if e != api.OK || n != len(l) {
		t.Fatalf("%d %d", n, e)
	}
	wantX, wantSites := slices.Clone(x), slices.Clone(sites)
	y, _, otherSites, _, _ := tread.Read(l, 0, 3, 1)
	y, otherSites = append(y, api.Node{}), append(otherSites, api.Site{})
	for i := range y {
		y[i] = api.Node{Kind: api.Tail, Name: "q", N: 99}
	}
	for i := range otherSites {
		otherSites[i] = api.Site{From: -1, To: -1, Miss: true}
	}
	z, _, again, _, _ := tread.Read(l, 0, 3, 1)
	if !slices.Equal(x, wantX) || !slices.Equal(z, wantX) || !slices.Equal(sites, wantSites) || !slices.Equal(again, wantSites) {
		t.Errorf("%v %v", x, z)
	}
	tread.Of(l)
	tread.Read(l, 3, 1, 100)
	if !slices.Equal(whole, before) {
		t.Errorf("changed: %v", whole)
	}
}
