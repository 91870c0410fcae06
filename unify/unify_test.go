package unify_test

import (
	"math"
	"slices"
	"strconv"
	"strings"
	"testing"

	"leaven/api"
	"leaven/prec"
	"leaven/term"
	"leaven/ty"
	"leaven/unify"
)

// of is the type with this printed form.
func of(text string) api.Type {
	x, rest := read(text)
	if rest != "" || ty.Print(x) != text {
		panic(text)
	}
	return x
}

// read reads the printed form of a type, and returns what follows it.
func read(text string) (api.Type, string) {
	x, rest := readFirst(text)
	if after, ok := strings.CutPrefix(rest, " -> "); ok {
		y, rest := read(after)
		return ty.Arrow(x, y), rest
	}
	return x, rest
}

func readFirst(text string) (api.Type, string) {
	switch text[0] {
	case '(':
		x, rest := read(text[1:])
		return x, rest[1:]
	case '{':
		return readRow(api.Record, text[1:])
	case '[':
		return readRow(api.Union, text[1:])
	case '\'':
		n, rest := readNumber(text[1:])
		return api.Type{{Kind: api.Var, N: n}}, rest
	}
	for kind, name := range []string{"?", "int", "bool", "string", "unit"} {
		if rest, ok := strings.CutPrefix(text, name); ok {
			return api.Type{{Kind: kind}}, rest
		}
	}
	panic(text)
}

func readNumber(text string) (int, string) {
	rest := strings.TrimLeft(text, "0123456789")
	n, _ := strconv.Atoi(text[:len(text)-len(rest)])
	return n, rest
}

func readRow(kind int, text string) (api.Type, string) {
	x := api.Type{{Kind: kind}}
	for !strings.ContainsAny(text[:1], "]}") {
		x[0].N++
		text = strings.TrimLeft(text, ",| ")
		if after, ok := strings.CutPrefix(text, ".."); ok {
			var n int
			n, text = readNumber(after)
			x = append(x, api.Node{Kind: api.Tail, N: n})
			continue
		}
		label, after, _ := strings.Cut(text, ": ")
		kid, rest := read(after)
		kid[0].Name = label
		x, text = append(x, kid...), rest
	}
	return x, text[1:]
}

// pairs is the pairs of types whose printed forms stand beside ~, between semicolons.
func pairs(text string) [][2]api.Type {
	var l [][2]api.Type
	for s := range strings.SplitSeq(text, "; ") {
		a, b, _ := strings.Cut(s, " ~ ")
		l = append(l, [2]api.Type{of(a), of(b)})
	}
	return l
}

// solved is a solver that has made these pairs consistent, and the error if it could not.
func solved(next int, l [][2]api.Type) (*unify.Solver, api.Errno) {
	s := unify.New(next)
	for _, p := range l {
		if errno := s.Agree(p[0], p[1]); errno != api.OK {
			return s, errno
		}
	}
	return s, api.OK
}

// known is the printed forms of what is known of these types. The numbers from next on are those from 100 on, in the order in which they occur.
func known(s *unify.Solver, next int, l ...api.Type) []string {
	var forms []string
	numbers := map[int]int{}
	for _, x := range l {
		x = s.Known(x)
		for i, y := range x {
			if (y.Kind == api.Var || y.Kind == api.Tail) && y.N >= next {
				if _, ok := numbers[y.N]; !ok {
					numbers[y.N] = 100 + len(numbers)
				}
				x[i].N = numbers[y.N]
			}
		}
		forms = append(forms, ty.Print(x))
	}
	return forms
}

// forms is the types with these printed forms, between semicolons.
func forms(text string) []api.Type {
	var l []api.Type
	for s := range strings.SplitSeq(text, "; ") {
		l = append(l, of(s))
	}
	return l
}

// P13.1 (M2) and P13.2: what is known of types after pairs were made consistent, where all numbers are below 10.
func TestAgree(t *testing.T) {
	for _, c := range [][3]string{
		{"'0 -> ? ~ int -> bool", "'0; '0 -> '1; ?", "int; int -> '1; ?"}, // the chapter's example
		// ? is consistent with everything, and leaves no trace.
		{"? ~ int; ? ~ ?; ? ~ '0; '0 ~ ?; ? ~ '0 -> '1; {..2} ~ ?", "'0; '1; {..2}", "'0; '1; {..2}"},
		{"{a: ?, b: int} ~ {a: bool, b: ?}; ? -> '0 ~ bool -> '0", "'0; {a: ?}", "'0; {a: ?}"},
		// The same variable.
		{"'0 ~ '0; {..1} ~ {..1}; {a: '0, ..1} ~ {a: '0, ..1}; [A: int | ..2] ~ [A: ? | ..2]", "'0; {..1}; [..2]", "'0; {..1}; [..2]"},
		// A Var is bound, and each ? is a variable of its own.
		{"'0 ~ int", "'0; '1", "int; '1"}, {"int ~ '0", "'0", "int"}, {"'0 ~ int; '0 ~ int", "'0", "int"}, {"'0 ~ {}", "'0", "{}"}, {"'0 ~ {..1}", "'0", "{..1}"}, {"'0 ~ [A: unit]", "'0", "[A: unit]"},
		{"'0 ~ ? -> ?", "'0", "'100 -> '101"}, {"? -> {a: ?} ~ '0", "'0", "'100 -> {a: '101}"}, {"'0 ~ ? -> ?; '0 ~ int -> ?; '0 ~ ? -> bool", "'0", "int -> bool"},
		{"'0 ~ ? -> ?; '0 ~ '1; '1 ~ '2 -> '2", "'0; '1; '2", "'2 -> '2; '2 -> '2; '2"}, {"'0 ~ {a: ?, ..5}; '1 ~ {a: ?, ..5}", "'0; '1", "{a: '100, ..5}; {a: '101, ..5}"},
		{"'0 ~ ?; '0 ~ int", "'0", "int"}, {"'0 -> '0 ~ ? -> int", "'0", "int"}, {"'0 -> '0 ~ (int -> ?) -> ? -> bool", "'0", "int -> bool"}, {"{a: '0, b: '0} ~ {a: ? -> int, b: ?}", "'0", "'100 -> int"},
		// Vars that are equal.
		{"'0 ~ '1", "'0 -> '1", "'0 -> '0"}, {"'1 ~ '0", "'0 -> '1", "'0 -> '0"}, {"'3 ~ '2; '2 ~ '1; '1 ~ '4", "{a: '1, b: '2, c: '3, d: '4}", "{a: '1, b: '1, c: '1, d: '1}"},
		{"'0 ~ '1; '1 ~ '2; '2 ~ string", "'0; '1; '2", "string; string; string"}, {"'0 -> '1 ~ '1 -> '0", "'0 -> '1", "'0 -> '0"}, {"'0 -> '1 -> '2 ~ '1 -> '2 -> int", "'0 -> '1 -> '2", "int -> int -> int"},
		// Arrows.
		{"'0 -> '1 ~ int -> bool", "'0; '1", "int; bool"}, {"'0 -> '1 ~ '1 -> int -> unit", "'0; '1", "int -> unit; int -> unit"}, {"('0 -> int) -> '1 ~ '2 -> '0; '1 ~ bool", "'2", "bool -> int"},
		// Rows without Tails.
		{"{} ~ {}; {a: '0, b: '1} ~ {a: int, b: {a: ?}}", "'0; '1", "int; {a: '100}"}, {"[A: '0 | B: '1] ~ [A: int | B: '0]", "'1", "int"},
		// A row with a Tail.
		{"{..1} ~ {}", "{..1}; {a: int, ..1}", "{}; {a: int}"}, {"{..1} ~ {a: int, b: ?}", "{..1}", "{a: int, b: '100}"}, {"{a: int, b: bool, c: '0} ~ {b: ?, ..1}", "{b: unit, ..1}", "{a: int, b: unit, c: '0}"},
		{"[A: int] ~ [A: '0 | ..1]", "'0; [B: bool | ..1]", "int; [B: bool]"}, {"[..1] ~ [A: ? | B: ? -> ?]; [..1] ~ [A: int | B: ?]", "[..1]", "[A: int | B: '100 -> '101]"},
		{"{a: '0, ..1} ~ {a: int}; {b: '0, ..1} ~ {b: '2}", "'2; {..1}", "int; {}"}, {"{a: {..1} -> '0} ~ {a: {b: int} -> {c: ?, ..1}}; '0 ~ {b: int, c: bool}", "'0; {..1}", "{b: int, c: bool}; {b: int}"},
		// Two rows with Tails.
		{"{..1} ~ {..2}", "{..1}; {..2}; {a: int, ..2}", "{..100}; {..100}; {a: int, ..100}"}, {"{a: '0, ..1} ~ {a: int, ..2}; {..1} ~ {b: ?}", "'0; {..2}", "int; {b: '100}"},
		{"{a: int, ..1} ~ {b: bool, ..2}", "{..1}; {..2}; {a: int, ..1}; {b: ?, ..2}", "{b: bool, ..100}; {a: int, ..100}; {a: int, b: bool, ..100}; {a: int, b: ?, ..100}"},
		{"{a: ?, ..1} ~ {b: ? -> ?, ..2}; {..1} ~ {b: int -> ?, c: bool}", "{..1}; {..2}", "{b: int -> '100, c: bool}; {a: '101, c: bool}"},
		{"[A: ? | C: '0 | ..1] ~ [B: bool | C: int | ..2]; [..1] ~ [B: ?]", "'0; [..1]; [..2]", "int; [B: bool]; [A: '100]"},
		{"{a: int, ..1} ~ {b: int, ..2}; {b: int, ..2} ~ {c: int, ..3}; {..3} ~ {a: int, b: int, d: int}", "{..1}; {..2}; {..3}", "{b: int, c: int, d: int}; {a: int, c: int, d: int}; {a: int, b: int, d: int}"},
		{"'0 ~ {b: int, ..1}; '0 ~ {a: int, ..2}; '0 ~ {c: int, ..3}; '0 ~ {..4}", "{..4}", "{a: int, b: int, c: int, ..100}"},
		{"{a: '0, ..1} ~ {a: {..1}, ..2}; {..2} ~ {b: int}", "'0", "{b: int}"},
		{"{a: '0 -> '0, b: '1, ..2} ~ {a: {..3} -> {c: int, ..4}, ..5}; '0 ~ {c: ?, d: '1}", "{..3}; {..4}; {b: '1, ..2}; {..5}", "{c: int, d: '1}; {d: '1}; {b: '1, ..100}; {b: '1, ..100}"},
		// A Tail of a union may stand for no children.
		{"[A: int | ..1] ~ [A: int]", "[A: int | ..1]; [B: bool | ..1]", "[A: int]; [B: bool]"}, {"[A: int | ..1] ~ [A: int]; [A: int | ..1] ~ [A: ? | ..2]; [..1] ~ [..2]", "[B: int | ..2]", "[B: int]"},
	} {
		s, errno := solved(10, pairs(c[0]))
		if got := strings.Join(known(s, 10, forms(c[1])...), "; "); errno != api.OK || got != c[2] {
			t.Errorf("%s: %d, and %s is %s, want %s", c[0], errno, c[1], got, c[2])
		}
		for _, p := range pairs(c[0]) {
			if a, b := pattern(s.Known(p[0])), pattern(s.Known(p[1])); !prec.Agree(a, b) {
				t.Errorf("%s: %s and %s", c[0], ty.Print(a), ty.Print(b))
			}
		}
	}
}

// pattern is x without tails, with ? for its variables.
func pattern(x api.Type) api.Type {
	var l api.Type
	var visit func(i int) bool
	visit = func(i int) bool {
		y := x[i]
		if y.Kind == api.Tail {
			return false
		}
		if y.Kind == api.Var {
			y.Kind = api.Dyn
		}
		at := len(l)
		l = append(l, y)
		for _, k := range ty.Kids(x, i) {
			if !visit(k) {
				l[at].N--
			}
		}
		return true
	}
	visit(0)
	return l
}

// P13.1 (M2): what can't be made consistent.
func TestNotAgree(t *testing.T) {
	for _, text := range []string{
		// Other kinds.
		"int ~ bool", "string ~ unit", "int ~ int -> int", "{} ~ int", "{} ~ [A: int]", "{..1} ~ [..2]", "[..1] ~ unit", "{a: int} ~ {a: bool}", "int -> int ~ int -> bool", "int -> int ~ bool -> int", "? -> ? ~ {a: ?}",
		"'0 ~ int; '0 ~ bool", "'0 ~ int; string ~ '0", "'0 -> '0 ~ int -> bool", "'0 ~ ? -> int; '0 ~ ? -> bool", "'0 ~ ? -> ?; '0 ~ {..1}", "'0 ~ '1; '0 ~ int; '1 ~ bool", "'0 ~ {a: ?}; '0 ~ {a: int}; '0 ~ {a: bool}",
		// A Var in its own type.
		"'0 ~ '0 -> int", "'0 ~ ? -> '0", "{a: '0} ~ '0", "'0 ~ {a: ?, b: int -> '0, ..1}", "'0 ~ '1 -> '1; '1 ~ ? -> '0", "'0 -> '1 ~ {a: '1} -> {a: '0}", "'0 ~ '1; '0 ~ '1 -> ?", "'0 ~ {..1}; {..1} ~ {a: '0}",
		"'0 ~ ? -> ?; '0 ~ '1 -> '2; '1 ~ '2 -> ?; '2 ~ {a: '0}",
		// A label is missing.
		"{} ~ {a: int}", "{a: int} ~ {b: int}", "{a: int, b: int} ~ {a: int}", "[A: int] ~ [A: int | B: int]", "{a: ?} ~ {b: ?}", "{a: int, ..1} ~ {}", "{a: int, ..1} ~ {b: int}", "[B: int] ~ [A: int | ..1]",
		"{..1} ~ {a: int}; {..1} ~ {}", "{..1} ~ {a: int}; {..1} ~ {a: int, b: int}", "{..1} ~ {}; {..1} ~ {a: int, ..2}", "{..1} ~ {..2}; {..1} ~ {}; {..2} ~ {a: int}", "[A: int | ..1] ~ [A: int]; [..1] ~ [B: int | ..2]",
		// A label is missing beside the same Tail.
		"{a: int, ..1} ~ {..1}", "{..1} ~ {a: ?, ..1}", "{a: int, ..1} ~ {b: int, ..1}", "[A: int | ..1] ~ [A: int | B: int | ..1]", "{..1} ~ {..2}; {a: int, ..1} ~ {..2}", "{a: int, ..1} ~ {b: int, ..2}; {..1} ~ {..2}",
		// A Tail in what it stands for.
		"{..1} ~ {a: {..1}}", "{a: {..1}, ..2} ~ {..1}", "{..1} ~ {a: ? -> {b: int, ..1}, ..2}", "{a: {..2}, ..1} ~ {b: {..1}, ..2}", "{..1} ~ {a: {..2}}; {..2} ~ {b: [B: {..1}]}", "[..1] ~ [A: [A: int | ..1]]", "{a: '0, ..1} ~ {b: ?, ..2}; '0 ~ {..2}",
		"{..1} -> {..1} ~ {b: {x: int, ..1}} -> {b: '0}", "{..1} -> {..1} -> '0 ~ {b: {x: int, ..1}} -> {b: {b: '2, ..3}} -> {..3}",
		// A label would stand twice in a row.
		"'0 ~ {a: int, ..1}; {..1} ~ {a: int}", "{..1} ~ {a: int}; '0 ~ {a: int, ..1}", "{a: {..1}, ..1} ~ {a: {a: ?}, ..2}", "[A: int | ..1] ~ [A: int | ..2]; [..1] ~ [A: ? | ..3]", "{..1} ~ {..2}; {a: int, ..2} ~ ?; {..1} ~ {a: int}", "{a: int, ..1} ~ {b: int, ..2}; {..1} ~ {a: int, ..3}",
		// A Tail can't stand for children of both kinds.
		"{..1} ~ {}; [A: int | ..1] ~ ?", "[A: int | ..1] ~ ?; {..1} ~ {}", "{a: [..1]} ~ ?; {..1} ~ {b: ?, ..2}", "{a: {..1}, b: [..1]} ~ {a: {..2}, b: [..3]}",
	} {
		if _, errno := solved(10, pairs(text)); errno != api.ErrType {
			t.Errorf("%s: %d", text, errno)
		}
		var turned [][2]api.Type
		for _, p := range pairs(text) {
			turned = append(turned, [2]api.Type{p[1], p[0]})
		}
		slices.Reverse(turned)
		if _, errno := solved(10, turned); errno != api.ErrType {
			t.Errorf("%s, turned round: %d", text, errno)
		}
	}
}

// P13.1: the words hold also for a number that is both that of a Var and that of a Tail, which are one variable (layer 12).
func TestOneNumber(t *testing.T) {
	for _, c := range [][3]string{
		{"'1 ~ {b: int}; {a: int, ..1} ~ {a: int, b: '2}", "'1; '2; {..1}", "{b: int}; int; {b: int}"},
		{"{a: int, ..1} ~ {a: int, b: ?}; '1 ~ {b: bool}", "'1; {..1}", "{b: bool}; {b: bool}"},
		{"'1 ~ '2; {a: int, ..1} ~ {a: int, b: ?}; '2 ~ {b: bool}", "'1; '2", "{b: bool}; {b: bool}"}, {"{a: int, ..2} ~ {a: int, b: ?}; '1 ~ '2; '1 ~ {b: bool}", "'1; '2", "{b: bool}; {b: bool}"},
		{"'1 ~ '2; {b: ?, ..2} ~ {b: int, ..3}", "'1; {..1}; {..3}", "{..100}; {..100}; {..100}"}, {"'1 ~ '2; {b: ?, ..2} ~ {b: int, ..1}", "{a: '2, ..2}", "{a: '1, ..1}"},
		{"'1 ~ {..1}; {a: int, ..1} ~ {a: ?, b: ?}", "'1", "{b: '100}"}, {"{..1} ~ '1", "'1; {..1}", "'1; {..1}"}, {"'1 ~ {..2}; {..1} ~ '2; '1 ~ {a: int}", "'1; '2", "{a: int}; {a: int}"},
		{"{a: '1, ..1} ~ {a: {b: int}, b: ?}", "'1; {..1}", "{b: int}; {b: int}"},
	} {
		s, errno := solved(10, pairs(c[0]))
		if got := strings.Join(known(s, 10, forms(c[1])...), "; "); errno != api.OK || got != c[2] {
			t.Errorf("%s: %d, and %s is %s, want %s", c[0], errno, c[1], got, c[2])
		}
	}
	for _, text := range []string{
		"'1 ~ int; {..1} ~ ?", "{..1} ~ ?; '1 ~ int", "{..1} ~ ?; '1 ~ ? -> ?", "{..1} ~ ?; '1 ~ [A: int]", "{..1} ~ ?; '1 ~ '2; '2 ~ int", "'1 ~ '2; {..1} ~ ?; '2 ~ int", "{a: int, ..1} ~ ?; '1 ~ {a: int}", "'1 ~ {a: int}; {a: int, ..1} ~ ?",
		"'1 ~ {a: int, ..1}", "'1 ~ {..2}; '2 ~ {a: int, ..1}", "'1 ~ {a: {..1}}", "{..1} ~ {a: '1}", "{..1} ~ {a: '1, ..2}", "{a: int, ..1} ~ ?; '1 ~ '2; '2 ~ {..3}; {..3} ~ {a: int}", "'1 ~ {..2}; '2 ~ [..3]",
	} {
		if _, errno := solved(10, pairs(text)); errno != api.ErrType {
			t.Errorf("%s: %d", text, errno)
		}
	}
}

// P13.1 (M1): fresh numbers are new and at least next; nothing is known at first.
func TestNew(t *testing.T) {
	for _, next := range []int{0, 1, 7, 1 << 40} {
		s := unify.New(next)
		seen := map[int]bool{}
		look := func(x api.Type) {
			for _, n := range term.Vars(x) {
				if n < next || seen[n] {
					t.Errorf("from %d on: %d in %s", next, n, ty.Print(x))
				}
				seen[n] = true
			}
		}
		for range 3 {
			x := s.Var()
			look(x)
			if len(x) != 1 || x[0] != (api.Node{Kind: api.Var, N: x[0].N}) || !slices.Equal(s.Known(x), x) {
				t.Errorf("%v", x)
			}
			if s.Agree(x, of("? -> {a: ?}")) != api.OK {
				t.Error(next)
			}
			look(s.Known(x))
			y := s.Open(api.Union, "A", of("int"))
			look(y)
			z := s.Open(api.Union, "B", of("bool"))
			if s.Agree(y, z) != api.OK {
				t.Error(next)
			}
			seen[s.Known(y)[3].N] = false
			look(s.Known(z))
		}
	}
	for _, x := range forms("'0; int; ? -> '1; {a: '0, ..2}; [..3]; {}; [A: ? | B: {..3} | ..1]") {
		x = slices.Clone(x)
		for i := range x {
			if x[i].Kind == api.Dyn {
				x[i].N = 7 + i
			}
		}
		if got := unify.New(4).Known(x); !slices.Equal(got, x) { // with its sites
			t.Errorf("%v: %v", x, got)
		}
	}
}

// P13.1 (M1): rows with one child and a fresh Tail.
func TestOpen(t *testing.T) {
	s := unify.New(5)
	for _, c := range []struct {
		kind  int
		label string
		text  string
	}{{api.Record, "a", "int"}, {api.Union, "A", "int"}, {api.Record, "x_1", "'0 -> ?"}, {api.Union, "Tag", "{a: '4, ..3}"}, {api.Record, "b", "[A: {}]"}, {api.Record, "c", "?"}} {
		x := of(c.text)
		x[0].Name = "" // a child's label is that which is asked for
		got := s.Open(c.kind, c.label, x)
		want := slices.Concat(api.Type{{Kind: c.kind, N: 2}}, x, api.Type{{Kind: api.Tail, N: got[len(got)-1].N}})
		want[1].Name = c.label
		if !slices.Equal(got, want) || !ty.Right(got) || want[len(want)-1].N < 5 {
			t.Errorf("%v, want %v", got, want)
		}
	}
	row := s.Open(api.Record, "a", of("'0"))
	if s.Agree(row, s.Open(api.Record, "b", of("'1"))) != api.OK || s.Agree(row, of("{a: int, b: bool}")) != api.OK || s.Agree(row, of("{a: ?, b: ?}")) != api.OK || ty.Print(s.Known(of("'0 -> '1"))) != "int -> bool" {
		t.Error(ty.Print(s.Known(row)))
	}
	for _, c := range []struct {
		kind  int
		label string
	}{{api.Record, "A"}, {api.Union, "a"}, {api.Record, ""}, {api.Union, "1"}, {api.Arrow, "a"}, {-1, "a"}, {api.Int, ""}} { // there is no such row
		if got := s.Open(c.kind, c.label, of("int")); len(got) != 0 {
			t.Errorf("%d with %q: %v", c.kind, c.label, got)
		}
	}
}

// R1 and R7: no object, objects that New has not made, negative numbers, and lists that are no types.
func TestNotPermitted(t *testing.T) {
	var none *unify.Solver
	if none.Agree(of("int"), of("int")) != api.ErrArg || len(none.Var()) != 0 || len(none.Open(api.Record, "a", of("int"))) != 0 || len(none.Known(of("int"))) != 0 {
		t.Error("nil")
	}
	for _, s := range []*unify.Solver{new(unify.Solver), unify.New(-1), unify.New(math.MinInt)} {
		x, y := s.Var(), s.Open(api.Record, "a", of("?"))
		if x[0].N < 0 || y[2].N < 0 || s.Agree(x, y) != api.OK || s.Agree(x, of("{a: int, b: bool}")) != api.OK || ty.Print(s.Known(y)) != "{a: ?, b: bool}" {
			t.Error(x, y)
		}
	}
	last := unify.New(math.MaxInt)
	if x := last.Var(); x[0].N != math.MaxInt || last.Agree(x, of("int -> bool")) != api.OK || ty.Print(last.Known(x)) != "int -> bool" {
		t.Error(x)
	}
	last.Agree(last.Var(), last.Open(api.Union, "A", last.Var())) // there are no numbers any more
	for _, x := range []api.Type{
		nil, {}, {{Kind: api.Arrow}}, {{Kind: api.Arrow}, {Kind: api.Int}}, {{Kind: api.Int}, {Kind: api.Int}}, {{Kind: api.Tail, N: 1}}, {{Kind: -1}}, {{Kind: 10}}, {{Kind: api.Var, N: -1}}, {{Kind: api.Record, N: -1}}, {{Kind: api.Record, N: 1}},
		{{Kind: api.Union, N: 1 << 62}}, {{Kind: api.Record, N: 1}, {Kind: api.Int}}, {{Kind: api.Record, N: 1}, {Kind: api.Tail, N: -1}}, {{Kind: api.Record, N: 1}, {Kind: api.Tail, Name: "a", N: 1}}, {{Kind: api.Arrow}, {Kind: api.Tail, N: 1}, {Kind: api.Int}}, {{Kind: api.Arrow}, {Kind: api.Int}, {Kind: api.Int, Name: "a"}}, {{Kind: api.Record, N: 1}, {Kind: 10, Name: "a"}},
		{{Kind: api.Record, N: 2}, {Kind: api.Tail, N: 1}, {Kind: api.Int, Name: "a"}}, {{Kind: api.Record, N: 2}, {Kind: api.Int, Name: "b"}, {Kind: api.Int, Name: "a"}}, {{Kind: api.Record, N: 2}, {Kind: api.Int, Name: "a"}, {Kind: api.Int, Name: "a"}},
	} {
		s := unify.New(2)
		if s.Agree(x, of("int")) != api.ErrArg || s.Agree(of("?"), x) != api.ErrArg || s.Agree(x, x) != api.ErrArg || len(s.Known(x)) != 0 {
			t.Errorf("%v", x)
		}
		s.Open(api.Record, "a", x)
		if s.Agree(of("'0"), of("int")) != api.OK || ty.Print(s.Known(of("'0"))) != "int" { // which it has not changed
			t.Errorf("%v", x)
		}
	}
}

// R1: a solver that has failed is still of no harm.
func TestAfterFailure(t *testing.T) {
	for _, text := range []string{"int ~ bool", "'0 ~ '0 -> '0", "{..1} ~ {a: {..1}}", "'0 ~ '1 -> '1; '1 ~ '2 -> '2; '2 ~ '0", "{a: '0, ..1} ~ {b: int, ..2}; '0 ~ {..1}; {..2} ~ {..1}"} {
		s, errno := solved(3, pairs(text))
		if errno != api.ErrType {
			t.Errorf("%s: %d", text, errno)
		}
		for _, x := range forms("'0; {..1}; '1 -> '2; {a: ?, ..2}") {
			s.Known(x)
			if s.Agree(x, of("?")) != api.ErrType || s.Agree(x, x) != api.ErrType || len(s.Var()) != 1 || len(s.Open(api.Record, "a", x)) == 0 {
				t.Errorf("%s, then %s", text, ty.Print(x))
			}
		}
	}
}

// R1: a Tail of a row that can't have the children for which it stands, so that there is no resolved form, stays as it is.
func TestKnownNoRow(t *testing.T) {
	s, errno := solved(3, pairs("{..1} ~ {a: int}; '0 ~ int"))
	if errno != api.OK {
		t.Fatal(errno)
	}
	for _, x := range forms("{a: bool, ..1}; [A: int | ..1]; {..0}") {
		if got := s.Known(x); !slices.Equal(got, x) {
			t.Errorf("%s: %s", ty.Print(x), ty.Print(got))
		}
	}
}
