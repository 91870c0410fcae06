package glyph_test

import (
	"fmt"
	"regexp"
	"strings"
	"testing"
	"unicode/utf8"

	"leaven/api"
	"leaven/glyph"
)

// each calls f with every string of at most most pieces.
func each(pieces []string, most int, f func(string)) {
	var grow func(s string, left int)
	grow = func(s string, left int) {
		f(s)
		for _, p := range pieces {
			if left > 0 {
				grow(s+p, left-1)
			}
		}
	}
	grow("", most)
}

func allBytes() []string {
	var l []string
	for i := range 256 {
		l = append(l, string([]byte{byte(i)}))
	}
	return l
}

// strays are texts each of whose bytes is part of no valid rune.
var strays = []string{
	"\x80", "\xbf", "\xc3", "\xc0\xaf", "\xc1\x81", "\xe2\x82", "\xe0\x80\xaf", "\xed\xa0\x80", "\xed\xbf\xbf",
	"\xef", "\xef\xbf", "\xf0\x9f\x98", "\xf0\x80\x80\xaf", "\xf4\x90\x80\x80", "\xf5\x80\x80\x80", "\xfe", "\xff", "\xff\xff",
}

// plains are runes that the quoted form keeps.
var plains = []string{
	" ", "!", "#", "'", "/", "0", "A", "_", "n", "t", "x", "~",
	"\u0080", "\u0085", "\u00a0", "é", "ß", "€", "\u200b", "\u2028", "\ud7ff", "\ue000", "\ufeff", "\ufffd", "\uffff", "𝄞", "😀", "\U0010ffff",
}

// P1.1 (A1): what is a word, and what is a tag.
func TestWordsAndTags(t *testing.T) {
	for s, want := range map[string][2]bool{
		"a": {true, false}, "z": {true, false}, "aZ_09": {true, false}, "def": {true, false}, "a__": {true, false},
		"A": {false, true}, "Z": {false, true}, "Az_09": {false, true}, "A__": {false, true},
		"": {}, "_": {}, "_a": {}, "0": {}, "0a": {}, "a b": {}, " a": {}, "a ": {}, "a\n": {}, "A\n": {}, "a!b": {}, "a.b": {}, "a-": {},
		"é": {}, "É": {}, "aé": {}, "Aé": {}, "a\xff": {}, "\xff": {}, "a\x00": {}, "A\x00": {}, "aа": {}, "ａ": {}, "a٣": {}, "a\ufffd": {},
	} {
		if glyph.IsWord(s) != want[0] || glyph.IsTag(s) != want[1] {
			t.Errorf("%q: word %v, tag %v", s, glyph.IsWord(s), glyph.IsTag(s))
		}
	}
}

func TestWordsAndTagsOfAllShortTexts(t *testing.T) {
	word := regexp.MustCompile(`\A[a-z][a-zA-Z0-9_]*\z`)
	tag := regexp.MustCompile(`\A[A-Z][a-zA-Z0-9_]*\z`)
	each(allBytes(), 2, func(s string) {
		if glyph.IsWord(s) != word.MatchString(s) || glyph.IsTag(s) != tag.MatchString(s) {
			t.Errorf("%q: word %v, tag %v", s, glyph.IsWord(s), glyph.IsTag(s))
		}
	})
}

// P1.1 (A1): the quoted form.
func TestQuote(t *testing.T) {
	for s, want := range map[string]string{
		"":                     `""`,
		`a"b`:                  `"a\"b"`,
		`"`:                    `"\""`,
		`\`:                    `"\\"`,
		`\n`:                   `"\\n"`,
		"\n":                   `"\n"`,
		"\t":                   `"\t"`,
		"\r":                   `"\x0d"`,
		"\x00":                 `"\x00"`,
		"\x1f ":                `"\x1f "`,
		"~\x7f":                `"~\x7f"`,
		"\u0080":               "\"\u0080\"",
		"\xffé\xc3":            `"\xffé\xc3"`,
		"\xc3\xa9":             `"é"`,
		"\xc3a":                `"\xc3a"`,
		"\xef\xbf\ufffd\xef":   `"\xef\xbf` + "\ufffd" + `\xef"`,
		"\xed\xa0\x80":         `"\xed\xa0\x80"`,
		"\xf4\x90\x80\x80":     `"\xf4\x90\x80\x80"`,
		"\xc0\x8a":             `"\xc0\x8a"`,
		"say \"hi\"\n\\\tdone": `"say \"hi\"\n\\\tdone"`,
	} {
		if got := glyph.Quote(s); got != want {
			t.Errorf("%q: %s, want %s", s, got, want)
		}
	}
}

func TestQuoteOfEachASCIIRune(t *testing.T) {
	for i := range 128 {
		s := string(rune(i))
		want := s
		switch {
		case i == 10:
			want = `\n`
		case i == 9:
			want = `\t`
		case i == 34 || i == 92:
			want = `\` + s
		case i < 32 || i == 127:
			want = fmt.Sprintf(`\x%02x`, i)
		}
		if got := glyph.Quote(s); got != `"`+want+`"` {
			t.Errorf("%d: %s", i, got)
		}
	}
}

func TestQuoteOfStrayBytesAndOtherRunes(t *testing.T) {
	for _, stray := range strays {
		for _, plain := range plains {
			hex := ""
			for i := range len(stray) {
				hex += fmt.Sprintf(`\x%02x`, stray[i])
			}
			want := `"` + plain + hex + plain + `"`
			if got := glyph.Quote(plain + stray + plain); got != want {
				t.Errorf("%q, %q: %s, want %s", plain, stray, got, want)
			}
		}
	}
}

// P1.1 (A2): what a quoted string represents, and how long it is.
func TestUnquote(t *testing.T) {
	for s, want := range map[string]string{
		`""`: "", `"a"`: "a", `"a\"b"`: `a"b`, `"\\"`: `\`, `"\\n"`: `\n`, `"\n\t"`: "\n\t", `"\\\""`: `\"`,
		`"\x00\x7f\xff"`: "\x00\x7f\xff", `"\x41\x0a"`: "A\n", `"\xc3\xa9"`: "é", `"\x22\x5c"`: `"\`, `"\x414"`: "A4",
		`"é😀"`: "é😀", "\"\ufffd\"": "\ufffd", "\"\u0080~\"": "\u0080~", `"# no comment"`: "# no comment",
	} {
		for _, more := range []string{"", `"`, "x", "\\", "\n", "\x00", "\xff", "\x80", `""`} {
			if x, n, e := glyph.Unquote(s + more); x != want || n != len(s) || e != api.OK {
				t.Errorf("%s and %q: %q %d %d", s, more, x, n, e)
			}
		}
	}
}

func TestUnquoteOfEachHexEscape(t *testing.T) {
	for high := range 256 {
		for low := range 256 {
			s := `"\x` + string([]byte{byte(high), byte(low)}) + `"`
			const digits = "0123456789abcdef"
			h, l := strings.IndexByte(digits, byte(high)), strings.IndexByte(digits, byte(low))
			x, n, e := glyph.Unquote(s)
			if h < 0 || l < 0 {
				if x != "" || n != 0 || e != api.ErrForm {
					t.Errorf("%q: %q %d %d", s, x, n, e)
				}
			} else if x != string([]byte{byte(16*h + l)}) || n != 6 || e != api.OK {
				t.Errorf("%q: %q %d %d", s, x, n, e)
			}
		}
	}
}

func TestUnquoteRefuses(t *testing.T) {
	bad := []string{
		"", "a", "'a'", ` "a"`, `a""`, "\\\"\"", "\xff\"\"", // no " at the start
		`"`, `"a`, `"\"`, `"\\\"`, `"a\"b`, // no " at the end
		`"\`, `"\x`, `"\x"`, `"\x4`, `"\x4"`, `"\x4g"`, `"\xg4"`, `"\x4A"`, `"\xA4"`, `"\X41"`, `"\x 4"`, `"\x-1"`, `"\x+1"`,
		`"\q"`, `"\r"`, `"\N"`, `"\T"`, `"\0"`, `"\'"`, `"\ "`, `"\é"`, "\"\\\n\"", "\"\\\xff\"", "\"\\\x00\"",
		"\"ab\ncd\"", "\"\x7f\"", "\"a\xffb\"", "\"\xc3\"", "\"\xc3\\xa9\"", "\"\xef\xbf\"",
	}
	for i := range 32 {
		bad = append(bad, "\"a"+string(rune(i))+"b\"")
	}
	for _, stray := range strays {
		bad = append(bad, "\""+stray+"\"", "\"\ufffd"+stray+"é\"")
	}
	for _, s := range bad {
		if x, n, e := glyph.Unquote(s); x != "" || n != 0 || e != api.ErrForm {
			t.Errorf("%q: %q %d %d", s, x, n, e)
		}
	}
}

// What Unquote accepts, held against the form of a quoted string as an expression.
func TestUnquoteOfAllShortTexts(t *testing.T) {
	form := regexp.MustCompile(`\A"(?:[^"\\\x00-\x1f\x7f]|\\[\\"nt]|\\x[0-9a-f]{2})*"`)
	each([]string{`"`, `\`, "x", "n", "4", "f", "\n", "\x7f", "\xc3", "\xa9"}, 5, func(s string) {
		s = `"` + s
		want := form.FindString(s)
		if !utf8.ValidString(want) {
			want = ""
		}
		x, n, e := glyph.Unquote(s)
		if n != len(want) || (e == api.OK) != (want != "") || e != api.OK && (x != "" || e != api.ErrForm) {
			t.Errorf("%q: %q %d %d, want %q", s, x, n, e, want)
		}
	})
}

// P1.1 (A3): lines and columns.
func TestPlace(t *testing.T) {
	const text = "ab\n\né\xff\xc3€\n"
	for _, c := range []struct {
		s                string
		at, line, column int
	}{
		{"", 0, 1, 1}, {"", -1, 1, 1}, {"", 7, 1, 1},
		{"a", 0, 1, 1}, {"a", 1, 1, 2}, {"a", 2, 1, 2}, {"\n", 0, 1, 1}, {"\n", 1, 2, 1}, {"\r\n", 1, 1, 2},
		{text, -1 << 63, 1, 1}, {text, -1, 1, 1}, {text, 0, 1, 1}, {text, 1, 1, 2}, {text, 2, 1, 3}, {text, 3, 2, 1}, {text, 4, 3, 1},
		{text, 5, 3, 2}, {text, 6, 3, 2}, {text, 7, 3, 3}, {text, 8, 3, 4}, {text, 9, 3, 5}, {text, 10, 3, 5}, {text, 11, 3, 5},
		{text, 12, 4, 1}, {text, 13, 4, 1}, {text, 1<<63 - 1, 4, 1},
		{"😀x", 1, 1, 2}, {"😀x", 3, 1, 2}, {"😀x", 4, 1, 2}, {"😀x", 5, 1, 3},
		{"\x80\xf0\x9f\x98", 1, 1, 2}, {"\x80\xf0\x9f\x98", 2, 1, 3}, {"\x80\xf0\x9f\x98", 3, 1, 4}, {"\x80\xf0\x9f\x98", 4, 1, 5},
		{"\t\tx", 2, 1, 3}, {"\ufffd\ufffd", 2, 1, 2}, {"\ufffd\ufffd", 3, 1, 2}, {"\u2028x", 3, 1, 2},
	} {
		if line, column := glyph.Place(c.s, c.at); line != c.line || column != c.column {
			t.Errorf("%q, %d: %d %d, want %d %d", c.s, c.at, line, column, c.line, c.column)
		}
	}
}

// placeByWords counts what A3 names, without a range over the text.
func placeByWords(s string, at int) (int, int) {
	at = max(0, min(at, len(s)))
	line := 1 + strings.Count(s[:at], "\n")
	column := 1
	for i := strings.LastIndex(s[:at], "\n") + 1; i < at; column++ {
		_, n := utf8.DecodeRuneInString(s[i:])
		i += n
	}
	return line, column
}

func TestPlaceInAllShortTexts(t *testing.T) {
	each([]string{"a", "\n", "é", "€", "😀", "\xff", "\xe2\x82"}, 4, func(s string) {
		for at := -1; at <= len(s)+1; at++ {
			line, column := glyph.Place(s, at)
			if l, c := placeByWords(s, at); line != l || column != c {
				t.Errorf("%q, %d: %d %d, want %d %d", s, at, line, column, l, c)
			}
		}
	})
}

func checkRoundTrip(t *testing.T, s, more string) {
	q := glyph.Quote(s)
	if x, n, e := glyph.Unquote(q + more); x != s || n != len(q) || e != api.OK {
		t.Errorf("%q as %s and %q: %q %d %d", s, q, more, x, n, e)
	}
}

// P1.2: what was quoted comes back with all its bytes, whatever follows.
func TestRoundTripOfAllShortTexts(t *testing.T) {
	for _, more := range []string{"", `"`, "a\"\xff"} {
		each(allBytes(), 2, func(s string) { checkRoundTrip(t, s, more) })
	}
}

func TestRoundTripOfMixedTexts(t *testing.T) {
	pieces := append([]string{`"`, `\`, "x", "n", "\n", "\t", "\x00", "\x7f"}, strays...)
	pieces = append(pieces, plains...)
	each(pieces, 3, func(s string) { checkRoundTrip(t, s, "\xa9") })
}

func TestRoundTripWhateverFollows(t *testing.T) {
	each(allBytes(), 2, func(more string) { checkRoundTrip(t, "\xc3\\\"é\n", more) })
}

func TestRoundTripOfLongTexts(t *testing.T) {
	for _, s := range []string{strings.Repeat("\xff", 100001), strings.Repeat(`\"`, 50000), strings.Repeat("é\n", 40000)} {
		checkRoundTrip(t, s, s)
	}
}
