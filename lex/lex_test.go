package lex_test

import (
	"regexp"
	"slices"
	"strings"
	"testing"
	"unicode/utf8"

	"leaven/api"
	"leaven/glyph"
	"leaven/lex"
)

var keyTexts = strings.Fields("import def fun let rec in if then else case of end true false unit int bool string")

var signTexts = strings.Fields("-> == && || ++ ( ) { } [ ] , ; : . = | + - * / < ? !")

// each calls f with every string of at most most pieces.
func each(pieces []string, most int, f func(string)) {
	var grow func(s string, left int)
	grow = func(s string, left int) {
		f(s)
		for _, p := range pieces {
			if left > 0 {
				grow(s+p, left-1)
			}
		}
	}
	grow("", most)
}

func allBytes() []string {
	var l []string
	for i := range 256 {
		l = append(l, string([]byte{byte(i)}))
	}
	return l
}

// mixed are pieces of which texts with and without errors consist.
var mixed = []string{
	"a", "Z", "0", "_", "in", "\"", "\\", "x41", "n", "#", "\n", " ", "\t", "-", ">", "=", "&", "|", "+", "(", "é", "\xff", "\r",
}

// sound are pieces each of which is a token or lies between tokens.
var sound = []string{
	"let", "a1", "B_", "007", "\"\"", "\"a\\\"\\\\ #\"", "\"\\x41\\xff\\n\"", "\"é\"", "->", "-", "=", "==", "|", "||", ".", " ", "\n", "#\"\n", "#",
}

// kinds of the tokens of a text, each as a letter.
func kinds(l []api.Tok) string {
	const letters = "EWTNQSK"
	s := ""
	for _, t := range l {
		s += letters[t.Kind : t.Kind+1]
	}
	return s
}

func texts(l []api.Tok) []string {
	var r []string
	for _, t := range l {
		r = append(r, t.Text)
	}
	return r
}

func check(t *testing.T, s, wantKinds string, wantTexts ...string) {
	t.Helper()
	l, at, e := lex.Tokens(s)
	if at != 0 || e != api.OK || kinds(l) != wantKinds || !slices.Equal(texts(l), append(wantTexts, "")) {
		t.Errorf("%q: %v %d %d", s, l, at, e)
	}
}

func checkWrong(t *testing.T, s string, want int) {
	t.Helper()
	if l, at, e := lex.Tokens(s); len(l) != 0 || at != want || e != api.ErrForm {
		t.Errorf("%q: %v %d %d, want the offset %d", s, l, at, e, want)
	}
}

// P2.1 (B1): the kinds and the texts of tokens.
func TestTokens(t *testing.T) {
	check(t, "", "E")
	check(t, "x->1", "WSNE", "x", "->", "1")
	check(t, "import a; def f = fun (x: ?) -> x;", "KWSKWSKSWSSSSWSE",
		"import", "a", ";", "def", "f", "=", "fun", "(", "x", ":", "?", ")", "->", "x", ";")
	check(t, "letx let_ let1 lets le Let LET l", "WWWWWTTWE", "letx", "let_", "let1", "lets", "le", "Let", "LET", "l")
	check(t, "let(let)let", "KSKSKE", "let", "(", "let", ")", "let")
	check(t, "aZ_09 A Az_09 Z__", "WTTTE", "aZ_09", "A", "Az_09", "Z__")
	check(t, "0 007 123456789012345678 000000000000000000", "NNNNE", "0", "007", "123456789012345678", "000000000000000000")
	check(t, "1.2-3", "NSNSNE", "1", ".", "2", "-", "3")
	check(t, `"a""b"c"d"1"e"`, "QQWQNQE", "a", "b", "c", "d", "1", "e")
	check(t, `"" "\"\\\n\t\x00\xff\x41" "# é"`, "QQQE", "", "\"\\\n\t\x00\xffA", "# é")
}

func TestTokensHaveOffsets(t *testing.T) {
	l, at, e := lex.Tokens("\t# é\n\"\\x41é\"abc ==12 #")
	want := []api.Tok{
		{Kind: api.Text, Text: "Aé", From: 6, To: 14},
		{Kind: api.Word, Text: "abc", From: 14, To: 17},
		{Kind: api.Sign, Text: "==", From: 18, To: 20},
		{Kind: api.Number, Text: "12", From: 20, To: 22},
		{Kind: api.End, From: 24, To: 24},
	}
	if !slices.Equal(l, want) || at != 0 || e != api.OK {
		t.Errorf("%v %d %d", l, at, e)
	}
}

func TestBetweenTokens(t *testing.T) {
	for _, s := range []string{" ", "\t", "\n", "#", "##", "# x\n", "#\n", "# \"\n", "#\xff\x00\r\x7f é$\n", "\n#\n\t #a\n#b", "  \n\n\t"} {
		l, at, e := lex.Tokens(s)
		if len(l) != 1 || l[0] != (api.Tok{From: len(s), To: len(s)}) || at != 0 || e != api.OK {
			t.Errorf("%q: %v %d %d", s, l, at, e)
		}
	}
	check(t, "a#b\nc", "WWE", "a", "c")
	check(t, "a#b\\\nc#", "WWE", "a", "c")
	check(t, "+#\n+", "SSE", "+", "+")
}

func TestKeys(t *testing.T) {
	for _, s := range keyTexts {
		check(t, s, "KE", s)
		check(t, s+"s", "WE", s+"s")
		check(t, s+"0", "WE", s+"0")
		check(t, s+"_", "WE", s+"_")
		check(t, "x"+s, "WE", "x"+s)
		if !lex.IsKey(s) {
			t.Error(s)
		}
		for _, not := range []string{s + "s", s[1:], s[:len(s)-1], " " + s, s + " ", s + "\n", strings.ToUpper(s), strings.ToUpper(s[:1]) + s[1:], s + s, s + " " + s} {
			if lex.IsKey(not) != slices.Contains(keyTexts, not) {
				t.Errorf("%q", not)
			}
		}
	}
	for _, s := range []string{"", " ", "a", "0", "->", "?", "module", "match", "with", "type", "not", "unit int", "\xff", "importdef"} {
		if lex.IsKey(s) {
			t.Errorf("%q", s)
		}
	}
}

func TestSigns(t *testing.T) {
	for _, s := range signTexts {
		check(t, s, "SE", s)
		check(t, "a"+s+"1", "WSNE", "a", s, "1")
	}
	check(t, "-->", "SSE", "-", "->")
	check(t, "===", "SSE", "==", "=")
	check(t, "= = ==", "SSSE", "=", "=", "==")
	check(t, "|||", "SSE", "||", "|")
	check(t, "+++", "SSE", "++", "+")
	check(t, "++++", "SSE", "++", "++")
	check(t, "&&&&", "SSE", "&&", "&&")
	check(t, "!=<=<-", "SSSSSSE", "!", "=", "<", "=", "<", "-")
}

// P2.1 (B1): what is no token, and where it is.
func TestWrongBytes(t *testing.T) {
	for _, c := range allBytes() {
		if strings.Contains(" \t\n#()[]{},;:.=|+-*/<?!0123456789", c) || glyph.IsWord(c) || glyph.IsTag(c) {
			if _, _, e := lex.Tokens("x " + c); e != api.OK {
				t.Errorf("%q", c)
			}
		} else {
			checkWrong(t, c, 0)
			checkWrong(t, "x "+c, 2)
			checkWrong(t, "x+"+c+"$", 2)
		}
	}
}

func TestWrong(t *testing.T) {
	for s, want := range map[string]int{
		"&": 0, "a & b": 2, "&&&": 2, "->>": 2, ">": 0, "- >": 2, "_": 0, "_a": 0, "a _b": 2, "a.__": 2, "a\r\n": 1, "a\v": 1, "a\f": 1,
		"é": 0, "aé": 1, "1é": 1, "Aé": 1, "\xff": 0, "a\xff": 1, "\ufeffa": 0, "a\u00a0b": 1, "'a'": 0, "a\x00": 1, "a@b": 1, "\\": 0, "`": 0, "~": 0,
		"1a": 0, "1A": 0, "1_": 0, " 1_0": 1, "0x10": 0, "a 1e5": 2, "12a34": 0, "-1a": 1, "1.2b": 2,
		"1234567890123456789": 0, "x 0000000000000000000": 2, "x 0000000000000000001;": 2, "123456789012345678a": 0, "1234567890123456789a": 0,
		`"`: 0, `"a`: 0, `y "a`: 2, `y "a"b"`: 6, `"\"`: 0, `a "\q"`: 2, `"\x4"`: 0, `"\xAA"`: 0, `"\x4g" $`: 0, "\"a\nb\"": 0, "\"a\tb\"": 0, "\"a\x7fb\"": 0, "z\"\xff\"": 1, "\"\xc3\"": 0,
		"# a\n $": 5, "#\n#\n'": 4, "a\n\n1a # b": 3, "$ 1a \"": 0, "1a $": 0, "\" $": 0, "a 1a \"\xff": 2,
	} {
		checkWrong(t, s, want)
	}
}

// P2.1 (B1): at most MaxText bytes, whatever they are.
func TestLongTexts(t *testing.T) {
	for _, piece := range []string{" ", "a", "(", "#", "$", "\"", "1", "\xff", "a ", "\n"} {
		if l, at, e := lex.Tokens(strings.Repeat(piece, api.MaxText/len(piece)) + piece); len(l) != 0 || at != 0 || e != api.ErrLarge {
			t.Errorf("%q: %d %d %d", piece, len(l), at, e)
		}
	}
	for piece, want := range map[string]int{" ": 1, "a": 2, "(": api.MaxText + 1, "#": 1, "\n": 1, "a ": api.MaxText/2 + 1, "\"\"": api.MaxText/2 + 1, "-> #\n": api.MaxText/5 + 1} {
		l, at, e := lex.Tokens(strings.Repeat(piece, api.MaxText/len(piece)))
		if len(l) != want || at != 0 || e != api.OK || l[want-1] != (api.Tok{From: api.MaxText, To: api.MaxText}) {
			t.Errorf("%q: %d %d %d", piece, len(l), at, e)
		}
	}
	long := "\"" + strings.Repeat("é", api.MaxText/2-1) + "\""
	check(t, long, "QE", long[1:len(long)-1])
	checkWrong(t, strings.Repeat("1", api.MaxText), 0)
	checkWrong(t, strings.Repeat(" ", api.MaxText-1)+"$", api.MaxText-1)
	checkWrong(t, "a\""+strings.Repeat("b", api.MaxText-2), 1)
}

// The expressions say anew what the chapter says of each kind; a shorter sign stands behind a longer one.
var (
	between    = regexp.MustCompile(`\A(?:[ \t\n]|#[^\n]*)*`)
	wordForm   = regexp.MustCompile(`\A[a-z][a-zA-Z0-9_]*`)
	tagForm    = regexp.MustCompile(`\A[A-Z][a-zA-Z0-9_]*`)
	numberForm = regexp.MustCompile(`\A[0-9]{1,18}`)
	runForm    = regexp.MustCompile(`\A[0-9]+[a-zA-Z_]|\A[0-9]{19}`)
	textForm   = regexp.MustCompile(`\A"(?:[^"\\\x00-\x1f\x7f]|\\[\\"nt]|\\x[0-9a-f]{2})*"`)
	signForm   = regexp.MustCompile(`\A(?:->|==|&&|\|\||\+\+|[(){}\[\],;:.=|+\-*/<?!])`)
)

// tokenByForms returns the kind of the token with which s begins, and how long it is.
func tokenByForms(s string) (int, int) {
	if n := len(wordForm.FindString(s)); n > 0 {
		if slices.Contains(keyTexts, s[:n]) {
			return api.Key, n
		}
		return api.Word, n
	}
	if x := textForm.FindString(s); utf8.ValidString(x) && x != "" {
		return api.Text, len(x)
	}
	if n := len(tagForm.FindString(s)); n > 0 {
		return api.Tag, n
	}
	if n := len(numberForm.FindString(s)); n > 0 && !runForm.MatchString(s) {
		return api.Number, n
	}
	return api.Sign, len(signForm.FindString(s))
}

func tokensByForms(s string) ([]api.Tok, int, api.Errno) {
	var l []api.Tok
	at := 0
	for {
		at += len(between.FindString(s[at:]))
		if at == len(s) {
			return append(l, api.Tok{From: at, To: at}), 0, api.OK
		}
		kind, n := tokenByForms(s[at:])
		if n == 0 {
			return nil, at, api.ErrForm
		}
		text := s[at : at+n]
		if kind == api.Text {
			text, _, _ = glyph.Unquote(text)
		}
		l = append(l, api.Tok{Kind: kind, Text: text, From: at, To: at + n})
		at += n
	}
}

func checkByForms(t *testing.T, s string) {
	t.Helper()
	l, at, e := lex.Tokens(s)
	wantL, wantAt, wantE := tokensByForms(s)
	if !slices.Equal(l, wantL) || at != wantAt || e != wantE {
		t.Errorf("%q: %v %d %d, want %v %d %d", s, l, at, e, wantL, wantAt, wantE)
	}
}

func TestTokensOfAllShortTexts(t *testing.T) {
	each(allBytes(), 2, func(s string) { checkByForms(t, s) })
	each(mixed, 4, func(s string) { checkByForms(t, s) })
	each(sound, 3, func(s string) { checkByForms(t, s) })
}

// P2.1 (B2): tokens as text.
func TestJoin(t *testing.T) {
	for _, c := range []struct {
		l    []api.Tok
		want string
	}{
		{nil, ""},
		{[]api.Tok{}, ""},
		{[]api.Tok{{}}, ""},
		{[]api.Tok{{Kind: api.Word, Text: "a"}}, ""},
		{[]api.Tok{{Kind: api.Word, Text: "a"}, {}}, "a"},
		{[]api.Tok{{Kind: api.Word, Text: "a"}, {Kind: api.Word, Text: "b"}}, "a"},
		{[]api.Tok{{Kind: api.Text}, {}}, `""`},
		{[]api.Tok{{Kind: api.Text, Text: "a"}, {Kind: api.Text, Text: "b\"\n\xff"}, {Kind: api.Text, Text: "c"}}, `"a" "b\"\n\xff"`},
		{[]api.Tok{{Kind: api.Key, Text: "let"}, {Kind: api.Word, Text: "x", From: 90, To: 7}, {Kind: api.Sign, Text: "=="}, {Kind: api.Number, Text: "007"}, {Kind: api.Tag, Text: "A"}, {}}, "let x == 007 A"},
		{[]api.Tok{{Kind: api.Word, Text: "a"}, {}, {Kind: api.Word, Text: "b"}, {}}, "a  b"},
	} {
		before := slices.Clone(c.l)
		if got := lex.Join(c.l); got != c.want {
			t.Errorf("%v: %q, want %q", c.l, got, c.want)
		}
		if !slices.Equal(c.l, before) {
			t.Errorf("changed: %v", before)
		}
	}
}

func TestJoinOfTokens(t *testing.T) {
	for s, want := range map[string]string{
		"": "", " # a": "", "a": "a", "a\n\tb # c": "a b", "f(x)->-1": "f ( x ) -> - 1", "a -": "a -",
		`"\x41""\x0a"`: `"A" "\n"`, "007": "007",
	} {
		l, _, e := lex.Tokens(s)
		if got := lex.Join(l); got != want || e != api.OK {
			t.Errorf("%q: %q %d, want %q", s, got, e, want)
		}
	}
}

// P2.2: the tokens ascend, and nothing else than spaces and comments lies between them.
func checkCoverage(t *testing.T, s string) {
	t.Helper()
	l, _, e := lex.Tokens(s)
	if e != api.OK {
		return
	}
	at := 0
	for i, k := range l {
		last := i == len(l)-1
		if k.From < at || k.To < k.From || last != (k.Kind == api.End) || last != (k.From == k.To) {
			t.Fatalf("%q: %d is %v", s, i, k)
		}
		if gap := s[at:k.From]; between.FindString(gap) != gap {
			t.Errorf("%q: %q lies between tokens", s, gap)
		}
		if own := s[k.From:k.To]; k.Kind != api.Text && own != k.Text || k.Kind == api.Text && textForm.FindString(own) != own {
			t.Errorf("%q: %d is %v", s, i, k)
		}
		at = k.To
	}
	if at != len(s) {
		t.Errorf("%q: %v", s, l)
	}
}

func TestCoverage(t *testing.T) {
	each(allBytes(), 2, func(s string) { checkCoverage(t, s) })
	each(mixed, 4, func(s string) { checkCoverage(t, s) })
	each(sound, 3, func(s string) { checkCoverage(t, s) })
	checkCoverage(t, strings.Repeat("let x1=A.b->\"q\\n\"#c\n<12 ", 4000))
}

// P2.3: the tokens of a joined text are the same ones, one space apart.
func checkRoundTrip(t *testing.T, s string) {
	t.Helper()
	l, _, e := lex.Tokens(s)
	if e != api.OK {
		return
	}
	again, at, e := lex.Tokens(lex.Join(l))
	if at != 0 || e != api.OK || len(again) != len(l) {
		t.Fatalf("%q: %v and %v %d %d", s, l, again, at, e)
	}
	for i := range l {
		if again[i].Kind != l[i].Kind || again[i].Text != l[i].Text {
			t.Errorf("%q: %v and %v", s, l[i], again[i])
		}
		if i > 0 && i < len(l)-1 && again[i].From != again[i-1].To+1 {
			t.Errorf("%q: %v and %v", s, again[i-1], again[i])
		}
	}
}

func TestRoundTrip(t *testing.T) {
	each(allBytes(), 2, func(s string) { checkRoundTrip(t, s) })
	each(mixed, 4, func(s string) { checkRoundTrip(t, s) })
	each(sound, 3, func(s string) { checkRoundTrip(t, s) })
	each(signTexts, 3, func(s string) { checkRoundTrip(t, s) })
	each(allBytes(), 2, func(s string) { checkRoundTrip(t, "a"+glyph.Quote(s)+"1") })
	checkRoundTrip(t, strings.Repeat("let x1=A.b->\"q\\n\"#cde\n<12 ", 3000))
}

// What a caller does with tokens must not be seen in later calls.
func TestTokensAreNew(t *testing.T) {
	const s = "def f = \"a\";"
	first, _, _ := lex.Tokens(s)
	want := slices.Clone(first)
	for i := range first {
		first[i] = api.Tok{Kind: api.Number, Text: "9"}
	}
	if again, _, _ := lex.Tokens(s); !slices.Equal(again, want) {
		t.Errorf("%v", again)
	}
}
