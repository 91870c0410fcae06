package term_test

import (
	"fmt"
	"math"
	"slices"
	"strconv"
	"strings"
	"testing"

	"leaven/api"
	"leaven/term"
	"leaven/ty"
)

// reader reads the printed form of a type, and also of one that is not valid.
type reader struct {
	t    *testing.T
	rest string
}

// of is the type with this printed form.
func of(t *testing.T, text string) api.Type {
	t.Helper()
	r := reader{t, text}
	x := r.arrow()
	if r.rest != "" {
		t.Fatalf("%s: %q is left", text, r.rest)
	}
	return x
}

// ofAll is the types with these printed forms.
func ofAll(t *testing.T, texts ...string) []api.Type {
	t.Helper()
	var l []api.Type
	for _, s := range texts {
		l = append(l, of(t, s))
	}
	return l
}

// skip reports whether the rest begins with s, and goes behind it.
func (r *reader) skip(s string) bool {
	after, ok := strings.CutPrefix(r.rest, s)
	r.rest = after
	return ok
}

// word reads letters, digits and _.
func (r *reader) word() string {
	after := strings.TrimLeft(r.rest, "_0123456789abcdefghijklmnopqrstuvwxyzABCDEFGHIJKLMNOPQRSTUVWXYZ")
	s := r.rest[:len(r.rest)-len(after)]
	r.rest = after
	return s
}

func (r *reader) number() int {
	n, err := strconv.Atoi(r.word())
	if err != nil {
		r.t.Fatal(err)
	}
	return n
}

func (r *reader) arrow() api.Type {
	x := r.atom()
	if r.skip(" -> ") {
		x = slices.Concat(api.Type{{Kind: api.Arrow}}, x, r.arrow())
	}
	return x
}

func (r *reader) atom() api.Type {
	switch {
	case r.skip("("):
		x := r.arrow()
		r.skip(")")
		return x
	case r.skip("{"):
		return r.row(api.Record, ", ", "}")
	case r.skip("["):
		return r.row(api.Union, " | ", "]")
	case r.skip("'"):
		return api.Type{{Kind: api.Var, N: r.number()}}
	case r.skip("?"):
		return api.Type{{Kind: api.Dyn}}
	}
	kinds := map[string]int{"int": api.Int, "bool": api.Bool, "string": api.String, "unit": api.Unit}
	kind, ok := kinds[r.word()]
	if !ok {
		r.t.Fatalf("no type before %q", r.rest)
	}
	return api.Type{{Kind: kind}}
}

func (r *reader) row(kind int, between, last string) api.Type {
	x := api.Type{{Kind: kind}}
	for !r.skip(last) {
		if x[0].N > 0 && !r.skip(between) {
			r.t.Fatalf("no %q before %q", between, r.rest)
		}
		x[0].N++
		if r.skip("..") {
			x = append(x, api.Node{Kind: api.Tail, N: r.number()})
			continue
		}
		label := r.word()
		r.skip(": ")
		kid := r.arrow()
		kid[0].Name = label
		x = append(x, kid...)
	}
	return x
}

// sited is x, whose ? have the sites from 1 on.
func sited(x api.Type) api.Type {
	x = slices.Clone(x)
	site := 0
	for i := range x {
		if x[i].Kind == api.Dyn {
			site++
			x[i].N = site
		}
	}
	return x
}

// P12.1 (L1): the variables, in strictly ascending order.
func TestVars(t *testing.T) {
	for _, c := range []struct {
		text string
		want []int
	}{
		{"int", nil}, {"?", nil}, {"{a: ?, b: int -> bool}", nil}, {"[A: unit]", nil},
		{"'0", []int{0}}, {"'7", []int{7}}, {"{..0}", []int{0}}, {"[..12]", []int{12}},
		{"'3 -> '1 -> '2", []int{1, 2, 3}}, {"'3 -> '3", []int{3}}, {"('10 -> '9) -> '100", []int{9, 10, 100}},
		{"{a: '5, b: {c: '2, ..9}, ..4}", []int{2, 4, 5, 9}}, {"[A: '4 | B: int -> '4 | ..4]", []int{4}}, {"{a: '3, ..3}", []int{3}},
		{"{a: [A: {b: '1, ..2} | ..1] -> ?, ..0}", []int{0, 1, 2}},
		{"{..9223372036854775807}", []int{math.MaxInt}},
	} {
		if got := term.Vars(of(t, c.text)); !slices.Equal(got, c.want) {
			t.Errorf("%s: %v, want %v", c.text, got, c.want)
		}
	}
	if got := term.Vars(sited(of(t, "? -> ? -> {a: ?, ..2}"))); !slices.Equal(got, []int{2}) { // a site is no variable
		t.Error(got)
	}
	if got := term.Vars(nil); len(got) != 0 {
		t.Error(got)
	}
}

// P12.1 (L1): each ? becomes a variable of its own, with its label; everything else is unchanged.
func TestFresh(t *testing.T) {
	for _, c := range []struct {
		text string
		n    int
		want string
		next int
	}{
		{"?", 0, "'0", 1}, {"?", 5, "'5", 6}, {"int", 5, "int", 5}, {"'3", 0, "'3", 0}, {"{..3}", 2, "{..3}", 2}, {"{}", 1, "{}", 1},
		{"? -> ?", 0, "'0 -> '1", 2}, {"(? -> ?) -> ? -> ?", 7, "('7 -> '8) -> '9 -> '10", 11},
		{"{a: ?, b: int, c: {d: ?}, e: ?}", 1, "{a: '1, b: int, c: {d: '2}, e: '3}", 4},
		{"[A: ? | B: ? -> '1 | ..2]", 3, "[A: '3 | B: '4 -> '1 | ..2]", 5},
		{"? -> '0 -> ?", 0, "'0 -> '0 -> '1", 2}, // the numbers are those that were asked for, whatever occurs already
	} {
		for _, x := range []api.Type{of(t, c.text), sited(of(t, c.text))} {
			got, next := term.Fresh(x, c.n)
			if want := of(t, c.want); !slices.Equal(got, want) || next != c.next {
				t.Errorf("%s from %d on: %v and %d, want %v and %d", c.text, c.n, got, next, want, c.next)
			}
		}
	}
	if got, next := term.Fresh(nil, 3); len(got) != 0 || next != 3 {
		t.Error(got, next)
	}
	if got, next := term.Fresh(of(t, "? -> int"), math.MaxInt); got[1].N != math.MaxInt || next != math.MinInt { // R6
		t.Error(got, next)
	}
}

// P12.1 (L3): a Var becomes unit, a Tail is removed, and so is a Union without children.
func TestGround(t *testing.T) {
	for _, c := range [][2]string{
		{"int", "int"}, {"?", "?"}, {"{}", "{}"}, {"[A: int]", "[A: int]"}, {"'0", "unit"}, {"'7 -> int", "unit -> int"}, {"('1 -> '2) -> '1", "(unit -> unit) -> unit"},
		{"{..1}", "{}"}, {"{a: int, ..1}", "{a: int}"}, {"{a: '1, b: '2, ..1}", "{a: unit, b: unit}"},
		{"[..1]", "unit"}, {"[A: int | ..1]", "[A: int]"}, {"[A: '1 | B: {b: '2, ..4} | ..3]", "[A: unit | B: {b: unit}]"},
		{"{a: [..1]}", "{a: unit}"}, {"{a: [..1], b: {..2}, ..3}", "{a: unit, b: {}}"}, {"[A: [..1] | ..2]", "[A: unit]"}, {"[A: [..1]]", "[A: unit]"}, {"[..1] -> [..1]", "unit -> unit"},
		{"{a: {b: {c: '1, ..1}, ..1}, d: ? -> '2, ..1}", "{a: {b: {c: unit}}, d: ? -> unit}"},
	} {
		if got, want := term.Ground(of(t, c[0])), of(t, c[1]); !slices.Equal(got, want) {
			t.Errorf("%s: %v, want %v", c[0], got, want)
		}
	}
	x := sited(of(t, "{a: ? -> '1, b: [B: ? | ..2], ..3}"))
	if got, want := term.Ground(x), sited(of(t, "{a: ? -> unit, b: [B: ?]}")); !slices.Equal(got, want) { // sites are kept
		t.Errorf("%v, want %v", got, want)
	}
	if got := term.Ground(nil); len(got) != 0 {
		t.Error(got)
	}
}

// P12.1 (L3): variables are numbered in the order in which they occur first, in all types together.
func TestCanon(t *testing.T) {
	for _, c := range [][2][]string{
		{nil, nil}, {{"int"}, {"int"}}, {{"?", "{}"}, {"?", "{}"}}, {{"'0"}, {"'1"}}, {{"'9", "'9"}, {"'1", "'1"}}, {{"'9", "'8"}, {"'1", "'2"}}, {{"'1", "'0"}, {"'1", "'2"}},
		{{"'2 -> '1 -> '2"}, {"'1 -> '2 -> '1"}}, {{"'2 -> '1", "'1 -> '2", "'0"}, {"'1 -> '2", "'2 -> '1", "'3"}},
		{{"{a: '7, ..3}", "{a: '3, ..7}"}, {"{a: '1, ..2}", "{a: '2, ..1}"}}, // a Var and a Tail of one number are one variable
		{{"[A: {b: '5, ..4} | ..5]", "int", "{..6}"}, {"[A: {b: '1, ..2} | ..1]", "int", "{..3}"}},
		{{"{a: {b: '5}, c: '5 -> '4, ..9}"}, {"{a: {b: '1}, c: '1 -> '2, ..3}"}},
	} {
		got, want := term.Canon(ofAll(t, c[0]...)), ofAll(t, c[1]...)
		if !slices.EqualFunc(got, want, slices.Equal) {
			t.Errorf("%v: %v, want %v", c[0], got, want)
		}
	}
	l := []api.Type{sited(of(t, "? -> {a: ?, ..2}")), nil, {{Kind: api.Var, N: math.MaxInt}}}
	if got, want := fmt.Sprint(term.Canon(l)), fmt.Sprint([]api.Type{sited(of(t, "? -> {a: ?, ..1}")), nil, {{Kind: api.Var, N: 2}}}); got != want { // sites are kept
		t.Errorf("%s, want %s", got, want)
	}
}

// P12.1: what is larger and deeper than most types; the words for it hold at the limits, too.
func TestLarge(t *testing.T) {
	x := slices.Repeat(api.Type{{Kind: api.Arrow}, {Kind: api.Dyn}}, api.MaxDeep-1)
	x = append(x, api.Node{Kind: api.Union, N: 1}, api.Node{Kind: api.Tail, N: 5})
	want := slices.Repeat(api.Type{{Kind: api.Arrow}, {Kind: api.Unit}}, api.MaxDeep-1)
	want = append(want, api.Node{Kind: api.Unit})
	fresh, next := term.Fresh(x, 6)
	if got := term.Ground(fresh); !slices.Equal(got, want) || next != api.MaxDeep+5 || !ty.Right(got) {
		t.Errorf("%v and %d", got, next)
	}
	if got := term.Vars(fresh); len(got) != api.MaxDeep || got[0] != 5 || got[1] != 6 || got[api.MaxDeep-1] != api.MaxDeep+4 {
		t.Error(got)
	}
	wide := api.Type{{Kind: api.Record, N: 50}}
	for i := range 49 {
		wide = append(wide, api.Node{Kind: api.Record, Name: fmt.Sprintf("l%02d", i), N: 50})
		for k := range 49 {
			wide = append(wide, api.Node{Kind: api.Var, Name: fmt.Sprintf("l%02d", k), N: 3000 - i*49 - k})
		}
		wide = append(wide, api.Node{Kind: api.Tail, N: 1})
	}
	wide = append(wide, api.Node{Kind: api.Tail})
	canon, ground := term.Canon([]api.Type{wide})[0], term.Ground(wide)
	if !ty.Right(wide) || len(term.Vars(wide)) != 49*49+2 || !slices.Equal(term.Vars(canon)[:3], []int{1, 2, 3}) || canon[52] != (api.Node{Kind: api.Record, Name: "l01", N: 50}) || canon[51].N != 50 || canon[53].N != 51 {
		t.Errorf("%v", canon[:60])
	}
	if !ty.Right(ground) || len(ground) != len(wide)-50 || ground[0].N != 49 || ground[1].N != 49 || ground[2] != (api.Node{Kind: api.Unit, Name: "l00"}) {
		t.Errorf("%v", ground[:60])
	}
}
