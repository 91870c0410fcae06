// Package glyph is layer 1: which characters form words, how strings are quoted, and where in a text an offset is.
package glyph

import (
	"strings"
	"unicode/utf8"

	"leaven/api"
)

const hexDigits = "0123456789abcdef"

// IsWord reports whether s is a word: a small letter, then letters, digits and _.
func IsWord(s string) bool {
	return isName(s, isSmall)
}

// IsTag reports whether s is a tag: a capital letter, then letters, digits and _.
func IsTag(s string) bool {
	return isName(s, isCapital)
}

func isName(s string, begins func(rune) bool) bool {
	for i, r := range s {
		if i == 0 && !begins(r) || !continues(r) {
			return false
		}
	}
	return s != ""
}

func continues(r rune) bool {
	return isSmall(r) || isCapital(r) || '0' <= r && r <= '9' || r == '_'
}

func isSmall(r rune) bool {
	return 'a' <= r && r <= 'z'
}

func isCapital(r rune) bool {
	return 'A' <= r && r <= 'Z'
}

// Quote returns the quoted form of s.
func Quote(s string) string {
	var b strings.Builder
	b.WriteByte('"')
	for i, r := range s {
		switch {
		case r == '"' || r == '\\':
			b.WriteByte('\\')
			b.WriteRune(r)
		case r == '\n':
			b.WriteString(`\n`)
		case r == '\t':
			b.WriteString(`\t`)
		case isControl(r) || isStray(s, i, r):
			b.WriteString(`\x`)
			b.WriteByte(hexDigits[s[i]>>4])
			b.WriteByte(hexDigits[s[i]&15])
		default:
			b.WriteRune(r)
		}
	}
	b.WriteByte('"')
	return b.String()
}

// Unquote returns the string that the quoted string at the start of s represents, and how many bytes that one occupies.
func Unquote(s string) (string, int, api.Errno) {
	if !strings.HasPrefix(s, `"`) {
		return "", 0, api.ErrForm
	}
	var b strings.Builder
	next := 1
	for i, r := range s {
		switch {
		case i < next: // the opening quote, or the rest of an escape
		case r == '"':
			return b.String(), i + 1, api.OK
		case r == '\\':
			c, n := unescape(s[i:])
			if n == 0 {
				return "", 0, api.ErrForm
			}
			b.WriteByte(c)
			next = i + n
		case isControl(r) || isStray(s, i, r):
			return "", 0, api.ErrForm
		default:
			b.WriteRune(r)
		}
	}
	return "", 0, api.ErrForm
}

// unescape returns the byte that the escape at the start of s represents, and the length of this escape, or 0 if there is none.
func unescape(s string) (byte, int) {
	if len(s) < 2 {
		return 0, 0
	}
	switch s[1] {
	case '\\', '"':
		return s[1], 2
	case 'n':
		return '\n', 2
	case 't':
		return '\t', 2
	case 'x':
		return unescapeHex(s)
	}
	return 0, 0
}

func unescapeHex(s string) (byte, int) {
	if len(s) < 4 {
		return 0, 0
	}
	high := strings.IndexByte(hexDigits, s[2])
	low := strings.IndexByte(hexDigits, s[3])
	if high < 0 || low < 0 {
		return 0, 0
	}
	return byte(high<<4 | low), 4
}

func isControl(r rune) bool {
	return r < 32 || r == 127
}

// isStray reports whether the rune r that a range over s gives at offset i stands for a byte that is part of no valid rune.
// The bytes are needed too, because a range gives the same rune for a U+FFFD that s really contains.
func isStray(s string, i int, r rune) bool {
	return r == utf8.RuneError && !strings.HasPrefix(s[i:], string(utf8.RuneError))
}

// Place returns the line and the column of the byte offset at, clamped to s, both from 1 on.
func Place(s string, at int) (int, int) {
	line, column := 1, 1
	for i, r := range s { // over all of s and not only what is before at, as a rune that at would cut in two counts once
		if i >= at {
			break
		}
		column++
		if r == '\n' {
			line, column = line+1, 1
		}
	}
	return line, column
}
