package parse_test

import (
	"slices"
	"strings"
	"testing"

	"leaven/api"
	"leaven/ast"
)

// grammar is the syntax of modules, a line for each thing: its name and then all it may be; Nothing is no token. (Word, Tag, Number and Text are tokens.)
const grammar = `
Module = Imports Defs End
Imports = Nothing / import Word ; Imports
Defs = Nothing / def Word Told = E ; Defs
Told = Nothing / : T
E = fun ( Word Told ) -> E / let Word Told = E in E / rec Word ( Word Told ) Told = E in E / if E then E else E / case E of Branches end / Or
Branches = Tag Word -> E / Branches | Tag Word -> E
Or = And / Or || And
And = Compared / And && Compared
Compared = Sum / Compared < Sum / Compared == Sum
Sum = Product / Sum + Product / Sum - Product / Sum ++ Product
Product = Operand / Product * Operand / Product // Operand
Operand = Applicand / Operand Applicand
Applicand = Atom / Applicand . Word
Atom = Number / Text / true / false / ( ) / Word / Word ! Word / ( E ) / ( E : T ) / { } / { Rows } / [ Tag = E Told ]
Rows = Word = E / Rows , Word = E
T = A / A -> T
A = ? / int / bool / string / unit / ( T ) / { } / { Fields } / [ Tags ]
Fields = Word : T / Fields , Word : T
Tags = Tag : T / Tags | Tag : T`

// state is a way to derive a part of the text: a rule, how much of it is done, and where it began.
type state struct {
	rule, done, from int
}

// earley tells step by step which tokens may come next.
type earley struct {
	names  []string
	rules  [][]string
	byName map[string][]int // the rules of each name
	sets   [][]state
}

func newEarley() *earley {
	g := &earley{byName: map[string][]int{}}
	for _, line := range strings.Split(strings.TrimSpace(grammar), "\n") {
		name, all, _ := strings.Cut(line, " = ")
		for _, one := range strings.Split(all, " / ") {
			var rule []string
			if one != "Nothing" {
				rule = strings.Fields(strings.Replace(one, "//", "/", 1))
			}
			g.byName[name] = append(g.byName[name], len(g.rules))
			g.names, g.rules = append(g.names, name), append(g.rules, rule)
		}
	}
	g.sets = [][]state{g.closed([]state{{}})}
	return g
}

// next is what a state expects, or the empty string.
func (g *earley) next(s state) string {
	if s.done == len(g.rules[s.rule]) {
		return ""
	}
	return g.rules[s.rule][s.done]
}

// closed adds to the states of the next set all that follow from them.
func (g *earley) closed(set []state) []state {
	here := len(g.sets)
	add := func(s state) {
		if !slices.Contains(set, s) {
			set = append(set, s)
		}
	}
	for i := 0; i < len(set); i++ {
		s := set[i]
		for _, r := range g.byName[g.next(s)] {
			add(state{r, 0, here})
			if len(g.rules[r]) == 0 {
				add(state{s.rule, s.done + 1, s.from})
			}
		}
		if g.next(s) == "" && s.from < here {
			for _, outer := range g.sets[s.from] {
				if g.next(outer) == g.names[s.rule] {
					add(state{outer.rule, outer.done + 1, outer.from})
				}
			}
		}
	}
	return set
}

// permits reports whether a token may come next.
func (g *earley) permits(token string) bool {
	return slices.ContainsFunc(g.sets[len(g.sets)-1], func(s state) bool { return g.next(s) == token })
}

// push goes on by a token that may come next.
func (g *earley) push(token string) {
	var set []state
	for _, s := range g.sets[len(g.sets)-1] {
		if g.next(s) == token {
			set = append(set, state{s.rule, s.done + 1, s.from})
		}
	}
	g.sets = append(g.sets, g.closed(set))
}

func (g *earley) pop() {
	g.sets = g.sets[:len(g.sets)-1]
}

// tokenText is the text of a token, where no two words and no two tags are equal.
func tokenText(token string, at int) string {
	switch token {
	case "Word":
		return "x" + strings.Repeat("x", at)
	case "Tag":
		return "X" + strings.Repeat("x", at)
	case "Number":
		return "1"
	case "Text":
		return "\"s\""
	}
	return token
}

// allTokens are a token of each kind, and all signs and keys.
func allTokens() []string {
	return strings.Fields("Word Tag Number Text import def fun let rec in if then else case of end true false unit int bool string -> == && || ++ ( ) { } [ ] , ; : . = | + - * / < ? !")
}

// checkPermitted checks the text of permitted tokens, whose end is not permitted unless the grammar says so, and each token that may not come next.
func checkPermitted(t *testing.T, g *earley, text string) {
	t.Helper()
	if g.permits("End") {
		m := parsed(t, text)
		checkRoundTrip(t, m)
		for _, d := range m.Defs {
			if !ast.Right(d.E) {
				t.Fatalf("%q: %v", text, d.E)
			}
		}
	} else {
		checkWrong(t, text, len(text), api.ErrForm)
	}
	for _, token := range allTokens() {
		if !g.permits(token) {
			checkWrong(t, text+tokenText(token, len(g.sets)), len(text), api.ErrForm)
		}
	}
	if t.Failed() {
		t.FailNow()
	}
}

// checkGrammar checks the text of tokens that are permitted, and all that go on by up to so many.
func checkGrammar(t *testing.T, first string, more int) {
	t.Helper()
	g, text := newEarley(), ""
	for _, token := range strings.Fields(first) {
		if !g.permits(token) {
			t.Fatal(first)
		}
		text += tokenText(token, len(g.sets)) + " "
		g.push(token)
	}
	var grow func(text string, left int)
	grow = func(text string, left int) {
		checkPermitted(t, g, text)
		for _, token := range allTokens() {
			if left > 0 && g.permits(token) {
				more := text + tokenText(token, len(g.sets)) + " "
				g.push(token)
				grow(more, left-1)
				g.pop()
			}
		}
	}
	grow(text, more)
}

// P6.1 (F1), P6.2, P6.3: short sequences of tokens, held against the grammar of the chapter.
func TestGrammar(t *testing.T) {
	checkGrammar(t, "", 5)
	for _, s := range []string{
		"import Word ; def Word = Word ;", "def Word : ? -> {", "def Word :", "def Word = Number ; def",
		"def Word = Word", "def Word = ( Word ) . Word", "def Word = Word ! Word", "def Word = Word + Word", "def Word = Word * Word < Number",
		"def Word = fun", "def Word = fun ( Word", "def Word = fun ( Word ) -> Word", "def Word = fun ( Word : ?",
		"def Word = let", "def Word = let Word = Word", "def Word = let Word : ? = Word in Word", "def Word = let Word",
		"def Word = rec", "def Word = rec Word ( Word", "def Word = rec Word ( Word )", "def Word = rec Word ( Word : ? ) : ?", "def Word = rec Word ( Word ) = Word", "def Word = rec Word ( Word ) = Word in Word",
		"def Word = if", "def Word = if Word", "def Word = if Word then Word", "def Word = if Word then Word else Word",
		"def Word = case", "def Word = case Word", "def Word = case Word of", "def Word = case Word of Tag Word -> Word", "def Word = case Word of Tag Word -> Word | Tag Word -> Word end",
		"def Word = (", "def Word = ( Word", "def Word = ( Word :", "def Word = ( Word : ?", "def Word = ( )", "def Word = ( Word : int )",
		"def Word = {", "def Word = { Word", "def Word = { Word = Word", "def Word = { Word = Word , Word = Word", "def Word = { }",
		"def Word = [", "def Word = [ Tag = Word", "def Word = [ Tag = Word :", "def Word = [ Tag = Word : ?", "def Word = [ Tag = Word ]",
		"def Word = fun ( Word ) -> if ( Word : ? ) then { Word = case Word of Tag Word -> [ Tag = let Word = Number in Word",
	} {
		checkGrammar(t, s, 2)
	}
}
