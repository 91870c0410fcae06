package parse_test

import (
	"slices"
	"strconv"
	"strings"
	"testing"

	"leaven/api"
	"leaven/ast"
	"leaven/parse"
)

// firsts are texts of expressions in which @ is the first expression inside.
func firsts() []string {
	return []string{
		"(@)", "(@: int)", "{a = @}", "{a = @, b = 1}", "[A = @]", "[A = @: int]", "f (@)", "(@) x", "1 + (@)", "(@).l", "{a = @}.a * 2", "f [A = @] x",
		"fun (x) -> @", "fun (x: ?) -> @", "let x = @ in x", "let x: int = @ in x", "rec f (x) = @ in f", "rec f (x: int): int = @ in f", "if @ then 1 else 2", "case @ of A x -> x end",
	}
}

// laters are texts of expressions in which @ is another expression inside, and 1 is the first one.
func laters() []string {
	return []string{
		"{a = 1, b = @}", "{a = 1, b = @, c = 1}", "let x = 1 in @", "rec f (x) = 1 in @", "if 1 then @ else 2", "if 1 then 2 else @", "case 1 of A x -> @ end", "case 1 of A x -> @ | B x -> x end", "case 1 of A x -> x | B x -> @ end", "(1) + (@)", "(1) (@)",
	}
}

// put is a text with s in the place of @.
func put(text, s string) string {
	return strings.Replace(text, "@", s, 1)
}

// inParens is s in n pairs of parentheses.
func inParens(s string, n int) string {
	return strings.Repeat("(", n) + s + strings.Repeat(")", n)
}

// atLevel is the text of a module in which s is an expression at this level.
func atLevel(s string, level int) string {
	return "def q = " + inParens(s, level-1) + ";"
}

// P6.1 (F1): expressions inside others are one level deeper, and no token is where one beyond MaxDeep would begin.
func TestLevels(t *testing.T) {
	for _, text := range slices.Concat(firsts(), laters()) {
		for _, level := range []int{1, 2, 50, api.MaxDeep - 2, api.MaxDeep - 1} {
			left := api.MaxDeep - level - 1
			parsed(t, atLevel(put(text, inParens("0", left)), level))
			checkMarked(t, atLevel(put(text, inParens("^0", left+1)), level), api.ErrDeep)
			checkMarked(t, atLevel(put(text, inParens("^()", left+1)), level), api.ErrDeep)
		}
	}
	for _, text := range firsts() {
		checkMarked(t, atLevel(put(text, "^0"), api.MaxDeep), api.ErrDeep)
	}
	for _, text := range laters() {
		checkMarked(t, atLevel(put(strings.Replace(text, "1", "^1", 1), "0"), api.MaxDeep), api.ErrDeep)
	}
}

// P6.1 (F1): an expression two places below another one is two levels deeper.
func TestLevelsOfPairs(t *testing.T) {
	all := slices.Concat(firsts(), laters())
	for _, a := range all {
		for _, b := range all {
			const level = 50
			parsed(t, atLevel(put(put(a, b), inParens("0", api.MaxDeep-level-2)), level))
			checkMarked(t, atLevel(put(put(a, b), inParens("^0", api.MaxDeep-level-1)), level), api.ErrDeep)
		}
	}
}

// P6.1 (F1): where an expression would be too deep, any token is one that is offending.
func TestTokensBeyondLevels(t *testing.T) {
	last := "def q = " + strings.Repeat("(", api.MaxDeep-1) // an expression at MaxDeep is next
	tokens := []string{"1", "\"s\"", "x!y", "true", "{", "{}", "[", "()", "((", "fun (x) -> 1", "let", "if", "case", "rec", "", "?", "A", "int", "in", "of", "end", "|", ")", "]", "}", "->", ":", ";", "def", "+", "="}
	for _, text := range firsts() {
		before, after, _ := strings.Cut(text, "@")
		for _, s := range tokens {
			if s == ")" && strings.HasSuffix(before, "(") {
				continue // () is an expression without others inside
			}
			checkMarked(t, last+before+"^"+s, api.ErrDeep)
			if s != "" {
				checkMarked(t, last+before+"^"+s+after, api.ErrDeep)
			}
		}
	}
	for _, s := range []string{"1", "x", "m!x", "()", "{}", "{}.a", "f () {} 1", "1 + 2 * f () {}", "x.l.m.n", "\"s\" true"} {
		parsed(t, atLevel(s, api.MaxDeep))
		checkMarked(t, atLevel("^"+s, api.MaxDeep+1), api.ErrDeep)
	}
	for _, s := range []string{"^?", ")^", "^in", "^]", "{^A", "{^", "{a^", "{a^}", "{^1", "[^]", "[^", "[A^]", "let ^(", "rec f^", "fun ^x", "fun (^", "fun (x) ^1", "1 ^?", "1 + ^", "x.^", "()^?", "{}^]", "x!^("} {
		checkMarked(t, last+s, api.ErrForm)
	}
	for _, s := range []string{"{a = ^", "f (^", "() {} (^()", "let x: int = ^", "fun (x: ?) -> ^", "1 + 2 * (^"} {
		checkMarked(t, last+s, api.ErrDeep)
	}
}

// P6.1 (F1): what stands beside does not count for the level.
func TestLevelsOfOperands(t *testing.T) {
	deep, deeper := inParens("1", api.MaxDeep-1), inParens("^1", api.MaxDeep)
	for _, s := range []string{"@ + $", "$ + @", "$ $ @", "1 * 2 + @", "@.l", "f @ + 1 && $ || $", "$ == $ @.l", "f x.l.m @ {}"} {
		s = strings.ReplaceAll(s, "$", deep)
		parsed(t, "def p = "+deep+"; def q = "+put(s, deep)+";")
		checkMarked(t, "def p = "+deep+"; def q = "+put(s, deeper)+";", api.ErrDeep)
	}
}

// typePlaces are texts of expressions, in which @ is a type.
func typePlaces() []string {
	return []string{
		"fun (x: @) -> 1", "let x: @ = 1 in 2", "rec f (x: @) = 1 in 2", "rec f (x): @ = 1 in 2", "rec f (x: int): @ = 1 in 2", "(1: @)", "(fun (x: int) -> x: @).l", "[A = 1: @]", "f (x: @)", "1 + f [A = x: @].l * 2",
	}
}

// P6.1 (F1): a type is at the level of the expression of which it is a part, and that of a definition at level 1.
func TestLevelsOfTypes(t *testing.T) {
	check := func(text string, left int) {
		arrows := strings.Repeat("? -> ", left)
		parsed(t, put(text, inParens("int", left)))
		parsed(t, put(text, arrows+"?"))
		for _, s := range []string{"^" + inParens("int", 1), "^" + inParens("int", 100), "^{a: int}", "^[A: int]", "^{}", "^(", "? ^-> ?"} {
			checkMarked(t, put(text, inParens(s, left)), api.ErrDeep)
		}
		checkMarked(t, put(text, arrows+"? ^-> ?"), api.ErrDeep)
		checkMarked(t, put(text, arrows+"^(?)"), api.ErrDeep)
	}
	for _, text := range typePlaces() {
		for _, level := range []int{1, 2, 3, 50, api.MaxDeep - 2} {
			check(atLevel(text, level), api.MaxDeep-level)
		}
		if !strings.Contains(text, "fun (x: int)") { // which needs two more levels
			check(atLevel(text, api.MaxDeep-1), 1)
		}
	}
	check("def q: @ = 1;", api.MaxDeep-1)
	check("def p: int = "+inParens("1", 99)+"; def q: @ = 1;", api.MaxDeep-1)
	last := "def q = " + strings.Repeat("(", api.MaxDeep-1)
	for _, s := range []string{"fun (x: ^{", "let x: ^(", "rec f (x: ? ^->", "rec f (x): ^["} {
		checkMarked(t, last+s, api.ErrDeep)
	}
	for _, s := range []string{"fun (x: ^) -> 1", "let x: int ^)", "rec f (x: ? ^=", "rec f (x): ^A"} {
		checkMarked(t, last+s, api.ErrForm)
	}
}

// P6.1 (F1): types that are too large or too deep as a whole are an error at their first token.
func TestWholeTypes(t *testing.T) {
	deep := strings.Repeat("{a: ", 60) + "int" + strings.Repeat("} -> int", 60)
	part := "{" + listed(50, "b$: ?", ",") + "}"
	wide := strings.Join(slices.Repeat([]string{"{" + listed(50, "a$: "+strings.ReplaceAll(part, "$", "_"), ",") + "}"}, 4), " -> ")
	places := []string{"def p = 1; def q: @ = 1;"}
	for _, text := range typePlaces() {
		places = append(places, "def p = 1; def q = "+text+";")
	}
	for _, text := range places {
		before, _, _ := strings.Cut(text, "@")
		checkMarked(t, put(text, "^"+deep), api.ErrDeep)
		checkMarked(t, before+"^"+deep+" ?", api.ErrDeep)
		checkMarked(t, put(text, "^"+wide), api.ErrLarge)
		checkMarked(t, before+"^"+wide+" ?", api.ErrLarge)
		checkMarked(t, before+deep+" -> ^", api.ErrForm)
		checkMarked(t, put(text, "{a: "+wide+", ^a: int}"), api.ErrExists)
	}
}

// P6.1 (F1): expressions that are too deep.
func TestDeepExpressions(t *testing.T) {
	for _, c := range []struct {
		before string
		depth  int // of before
		again  string
		more   int // the depth of again
	}{
		{"1", 1, " + 1", 1}, {"1", 1, " 1", 1}, {"1", 1, ".l", 1}, {"1", 1, ".l.m", 2}, {"1", 1, " && 1", 1}, {"1 + 1 x.l", 4, " x.l", 1},
	} {
		text := func(depth int) string {
			return c.before + strings.Repeat(c.again, (depth-c.depth)/c.more)
		}
		for _, depth := range []int{95, 97, 99, 100} {
			s := "def p = 1; def q = " + text(depth) + ";"
			m := parsed(t, s)
			if !ast.Right(m.Defs[1].E) {
				t.Errorf("%q", s)
			}
			checkRoundTrip(t, m)
		}
		for _, depth := range []int{102, 103, 1000, 5000} {
			s := text(depth)
			checkMarked(t, "def p = 1; ^def q = "+s+";", api.ErrDeep)
			checkMarked(t, "^def q = "+s+"; def p = 1;", api.ErrDeep)
			checkMarked(t, "import a; ^def q: int = "+s+"; def p = "+s+";", api.ErrDeep)
			checkMarked(t, "def q = "+s+"; def p = ^;", api.ErrForm)
			checkMarked(t, "def q = "+s+"^", api.ErrForm)
			checkMarked(t, "def q = "+s+"; ^x", api.ErrForm)
			checkMarked(t, "def q = "+s+"; def ^q = 1;", api.ErrExists)
			checkMarked(t, "def q = "+s+"; def p = {a = 1, ^a = 2};", api.ErrExists)
			checkMarked(t, "def q = "+s+";"+listed(199, "def x$ = 1;", "")+"^def p = 1;", api.ErrLarge)
			checkMarked(t, "def q = "+s+"; def p = "+strings.Repeat("(", 100)+"^(", api.ErrDeep)
		}
	}
}

// P6.1 (F1): each part counts for the depth, also a branch, and no parentheses do.
func TestDepths(t *testing.T) {
	for text, depth := range map[string]int{ // of @ in it, which is at the next level
		"(@)": 0, "(@: int)": 1, "{a = @}": 1, "{b = 1, a = @}": 1, "[A = @]": 1, "f (@)": 1, "(@) x": 1, "(@).l": 1, "{a = @}.l": 2, "f [A = @]": 2, "1 + (@)": 1, "(@) * 2": 1, "1 + f (@).l": 3, "fun (x) -> @": 1, "let x = @ in 1": 1, "let x = 1 in @": 1, "rec f (x) = @ in 1": 1, "rec f (x) = 1 in @": 1,
		"if @ then 1 else 2": 1, "if 1 then @ else 2": 1, "if 1 then 2 else @": 1, "case @ of A x -> 1 end": 1, "case 1 of A x -> @ end": 2, "case 1 of A x -> 1 | B x -> @ end": 2,
	} {
		for _, outer := range []int{1, 2, 20} {
			s := "def p = 1; def q = @;"
			for range outer {
				s = put(s, inParens(text, 1))
			}
			left := api.MaxDeep - 1 - outer*depth
			parsed(t, put(s, "1"+strings.Repeat(".l", left)))
			checkMarked(t, strings.Replace(put(s, "1"+strings.Repeat(".l", left+1)), "def q", "^def q", 1), api.ErrDeep)
		}
	}
}

// parts is the text of an expression of n parts, which is not deep.
func parts(n int) string {
	if n == 1 {
		return "1"
	}
	many := min(n-1, 50)
	l := make([]string, many)
	for i := range l {
		l[i] = "a" + strconv.Itoa(i) + "=" + parts((n-1+i)/many)
	}
	return "{" + strings.Join(l, ",") + "}"
}

// P6.1 (F1): expressions with too many parts.
func TestManyParts(t *testing.T) {
	for _, n := range []int{1, 2, 51, 52, 3000, api.MaxNodes - 1, api.MaxNodes} {
		m := parsed(t, "def q = "+parts(n)+";")
		if len(m.Defs[0].E) != n {
			t.Fatalf("%d: %d", n, len(m.Defs[0].E))
		}
		checkRoundTrip(t, m)
	}
	parsed(t, "def p = "+parts(5000)+"; def q = "+parts(5001)+";")
	for _, n := range []int{api.MaxNodes + 1, api.MaxNodes + 2, api.MaxNodes + 2000} {
		s := parts(n)
		checkMarked(t, "^def q = "+s+";", api.ErrDeep)
		checkMarked(t, "def p = 1; ^def q = "+s+"; def r = "+strings.Repeat("f ", 200)+"1;", api.ErrDeep)
		checkMarked(t, "def p = 1; ^def r = "+strings.Repeat("f ", 200)+"1; def q = "+s+";", api.ErrDeep)
		checkMarked(t, "def q = "+s+"; ^?", api.ErrForm)
		checkMarked(t, "def q = {a = "+s+", ^a = 1};", api.ErrExists)
	}
	checkMarked(t, "^def q = fun (x) -> "+parts(api.MaxNodes)+";", api.ErrDeep)
}

// R1: long texts with all kinds of nesting are parsed or refused.
func TestLongTexts(t *testing.T) {
	for before, l := range map[string][]string{
		"":         {"import a;", "def x = 1;", "def ", "x ", "; "},
		"def q: ":  {"(", "? -> ", "{a:", "[A:"},
		"def q = ": {"(", "{", "{a=", "[A=", "fun (x) -> ", "let x = ", "let x=1 in ", "rec f (x) = ", "if ", "if x then 1 else ", "case ", "case x of A x -> ", "1 ", "1+", "1*1+", "x.", "x.l ", "x!", "\"s\" ", "(1:", "(1:(", "[A=1:{a:", "{a=1}", "()"},
	} {
		for _, s := range l {
			for _, last := range []string{"1;", ";"} {
				text := before + strings.Repeat(s, (api.MaxText-20)/len(s)) + last
				m, at, e := parse.Parse("m", text)
				if at < 0 || at > len(text) || e == api.OK && at != 0 || e != api.OK && (len(m.Defs) != 0 || len(m.Imports) != 0 || len(m.Sites) != 0 || m.Name != "") {
					t.Errorf("%q %q: %d %d", before, s, at, e)
				}
			}
		}
	}
}

// The result depends on the arguments only.
func TestRepeats(t *testing.T) {
	for _, s := range []string{"import a; def x = fun (y) -> y + [A = 1]; def z: ? = {b = 1, a = x};", "def x = 1; def x = 2;", "x", "def q = {a = 1, a = 2};"} {
		m, at, e := parse.Parse("m", s)
		for range 3 {
			n, otherAt, otherE := parse.Parse("m", s)
			if at != otherAt || e != otherE || !parse.Same(m, n) || !slices.Equal(m.Sites, n.Sites) {
				t.Errorf("%q", s)
			}
		}
	}
}
