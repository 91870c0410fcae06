package ast_test

import (
	"fmt"
	"math"
	"reflect"
	"slices"
	"strconv"
	"strings"
	"testing"

	"leaven/api"
	"leaven/ast"
	"leaven/lex"
	"leaven/ty"
)

var (
	unknown = api.Type{{Kind: api.Dyn, N: 3}}
	integer = api.Type{{Kind: api.Int}}
	truth   = api.Type{{Kind: api.Bool}}
	text    = api.Type{{Kind: api.String}}
	unit    = api.Type{{Kind: api.Unit}}
)

// sample is an expression that is built from its children, with what the chapter says of it.
type sample struct {
	e    api.Expr
	text string
	free map[string]bool
	kids []sample
}

// frame is a part without its children.
type frame struct {
	p     api.Part
	form  string     // the printed form, in which each # stands for a child
	binds [][]string // the names that are bound in each child
}

func leaf(p api.Part, text string) sample {
	s := sample{e: api.Expr{p}, text: text}
	if p.Kind == api.Name {
		s.free = map[string]bool{p.Name: true}
	}
	return s
}

func name(s string) sample { return leaf(api.Part{Kind: api.Name, Name: s}, s) }

func number(n int64) sample {
	return leaf(api.Part{Kind: api.Lit, T: integer, Num: n}, strconv.FormatInt(n, 10))
}

// join is what f becomes with these children.
func join(f frame, kids ...sample) sample {
	s := sample{e: api.Expr{f.p}, free: map[string]bool{}, kids: kids}
	parts := strings.Split(f.form, "#")
	for i, k := range kids {
		s.e = append(s.e, k.e...)
		s.text += parts[i] + k.text
		for x := range k.free {
			if i >= len(f.binds) || !slices.Contains(f.binds[i], x) {
				s.free[x] = true
			}
		}
	}
	s.text += parts[len(kids)]
	return s
}

// marked is s with a label.
func marked(label string, s sample) sample {
	s.e = slices.Clone(s.e)
	s.e[0].Label = label
	return s
}

func rows(labels []string, kids ...sample) sample {
	var forms []string
	var l []sample
	for i, k := range kids {
		forms = append(forms, labels[i]+" = #")
		l = append(l, marked(labels[i], k))
	}
	return join(frame{p: api.Part{Kind: api.Rows, Many: len(kids)}, form: "{" + strings.Join(forms, ", ") + "}"}, l...)
}

func branch(tag, bind string, e sample) sample {
	return join(frame{p: api.Part{Kind: api.Branch, Label: tag, Bind: bind}, form: tag + " " + bind + " -> #", binds: [][]string{{bind}}}, e)
}

func match(e sample, branches ...sample) sample {
	form := "(case # of #" + strings.Repeat(" | #", len(branches)-1) + " end)"
	return join(frame{p: api.Part{Kind: api.Case, Many: len(branches)}, form: form}, append([]sample{e}, branches...)...)
}

// binder is a Fun or a Let.
func binder(kind int, bind string, t api.Type) frame {
	if kind == api.Fun {
		return frame{p: api.Part{Kind: kind, Bind: bind, T: t}, form: "(fun (" + bind + ": " + ty.Print(t) + ") -> #)", binds: [][]string{{bind}}}
	}
	return frame{p: api.Part{Kind: kind, Bind: bind, T: t}, form: "(let " + bind + ": " + ty.Print(t) + " = # in #)", binds: [][]string{nil, {bind}}}
}

func rec(f, x string, t, u api.Type) frame {
	form := "(rec " + f + " (" + x + ": " + ty.Print(t) + "): " + ty.Print(u) + " = # in #)"
	return frame{p: api.Part{Kind: api.Rec, Name: f, Bind: x, T: t, U: u}, form: form, binds: [][]string{{f, x}, {f}}}
}

func op(s string) frame { return frame{p: api.Part{Kind: api.Op, Name: s}, form: "(# " + s + " #)"} }

func get(l string) frame { return frame{p: api.Part{Kind: api.Get, Name: l}, form: "#." + l} }

func inject(tag string, t api.Type) frame {
	return frame{p: api.Part{Kind: api.Inject, Name: tag, T: t}, form: "[" + tag + " = #: " + ty.Print(t) + "]"}
}

func as(t api.Type) frame {
	return frame{p: api.Part{Kind: api.As, T: t}, form: "(#: " + ty.Print(t) + ")"}
}

func cast(n int64, t, u api.Type) frame {
	return frame{p: api.Part{Kind: api.Cast, Num: n, T: t, U: u}, form: "<#: " + ty.Print(t) + " => " + ty.Print(u) + ">"}
}

var (
	app   = frame{p: api.Part{Kind: api.App}, form: "(# #)"}
	ifs   = frame{p: api.Part{Kind: api.If}, form: "(if # then # else #)"}
	empty = rows(nil)
)

// fewest are the frames with which every kind of part occurs.
func fewest() []frame {
	return []frame{
		binder(api.Fun, "x", unknown), binder(api.Let, "y", api.Type{{}}), rec("f", "x", integer, unknown), rec("x", "x", unknown, truth),
		app, ifs, op("+"), get("l"), inject("A", unknown), as(unknown),
	}
}

// grown are all expressions of these leaves and frames, by their numbers of parts up to most.
func grown(most int, leaves []sample, frames []frame) [][]sample {
	bySize := make([][]sample, most+1)
	bySize[1] = append(slices.Clone(leaves), empty)
	for n := 2; n <= most; n++ {
		add := func(s sample) { bySize[n] = append(bySize[n], s) }
		for _, f := range frames {
			eachKids(bySize, n-1, strings.Count(f.form, "#"), func(kids []sample) { add(join(f, kids...)) })
		}
		for _, labels := range [][]string{{"a"}, {"b"}, {"b", "a"}, {"a", "l"}} {
			eachKids(bySize, n-1, len(labels), func(kids []sample) { add(rows(labels, kids...)) })
		}
		eachKids(bySize, n-2, 2, func(k []sample) { add(match(k[0], branch("A", "x", k[1]))) })
		eachKids(bySize, n-3, 3, func(k []sample) { add(match(k[0], branch("B", "y", k[1]), branch("A", "x", k[2]))) })
	}
	return bySize
}

// eachKids calls do with all lists of many expressions that have n parts together.
func eachKids(bySize [][]sample, n, many int, do func([]sample)) {
	var add func(left int, kids []sample)
	add = func(left int, kids []sample) {
		if len(kids) == many {
			if left == 0 {
				do(slices.Clone(kids))
			}
			return
		}
		for size := 1; size <= left-(many-len(kids)-1); size++ {
			for _, k := range bySize[size] {
				add(left-size, append(kids, k))
			}
		}
	}
	add(n, nil)
}

// samples are expressions of all kinds without casts, with few parts.
func samples() []sample {
	arrow := api.Type{{Kind: api.Arrow}, {Kind: api.Dyn, N: 4}, {Kind: api.Int}}
	leaves := []sample{
		name("x"), name("y"), name("f"), name("x!y"), name("m!x"), number(0), number(12), number(999_999_999_999_999_999),
		leaf(api.Part{Kind: api.Lit, T: truth}, "false"), leaf(api.Part{Kind: api.Lit, T: truth, Num: 1}, "true"),
		leaf(api.Part{Kind: api.Lit, T: text}, `""`), leaf(api.Part{Kind: api.Lit, T: text, Name: "x"}, `"x"`), leaf(api.Part{Kind: api.Lit, T: text, Name: "a\"\n\xff"}, `"a\"\n\xff"`),
		leaf(api.Part{Kind: api.Lit, T: unit}, "()"),
	}
	frames := append(fewest(), binder(api.Fun, "y", arrow), binder(api.Fun, "x", integer), binder(api.Let, "x", text), rec("x", "f", unknown, unknown), inject("B", unit), inject("A", api.Type{{Kind: api.Record}}), as(integer), get("m"))
	for _, s := range []string{"-", "*", "/", "<", "==", "&&", "||", "++"} {
		frames = append(frames, op(s))
	}
	l := slices.Concat(grown(3, leaves, frames)...)
	return append(l, slices.Concat(grown(5, []sample{name("x"), name("y")}, fewest())...)...)
}

// casts are some expressions with casts.
func casts() []sample {
	x := name("x")
	c := join(cast(0, unknown, integer), x)
	return []sample{
		c, join(cast(math.MaxInt64, integer, unknown), c), join(app, c, join(cast(7, truth, truth), join(binder(api.Fun, "x", unknown), c))),
		rows([]string{"a", "b"}, c, join(get("l"), c)), match(c, branch("A", "x", c)), join(cast(1, api.Type{{Kind: api.Arrow}, {}, {Kind: api.Bool}}, unknown), number(3)),
	}
}

func all() []sample { return append(samples(), casts()...) }

// P5.1 (E1): what can be built is valid.
func TestRight(t *testing.T) {
	for _, s := range all() {
		if !ast.Right(s.e) {
			t.Fatalf("%s: %v", s.text, s.e)
		}
	}
}

// P5.1 (E1): of all short sequences, those that can be built are valid, and no others.
func TestRightOfAllShortExpressions(t *testing.T) {
	var parts []api.Part
	for _, label := range []string{"", "a", "b", "A"} {
		for _, p := range []api.Part{
			{Kind: api.Name, Name: "x"}, {Kind: api.Fun, Bind: "x", T: unknown}, {Kind: api.App}, {Kind: api.If}, {Kind: api.Case, Many: 1}, {Kind: api.Case, Many: 2},
			{Kind: api.Branch, Bind: "x"}, {Kind: api.Rows}, {Kind: api.Rows, Many: 1}, {Kind: api.Rows, Many: 2}, {Kind: api.Get, Name: "a"},
		} {
			p.Label = label
			parts = append(parts, p)
		}
	}
	key := func(l []api.Part) string {
		var b strings.Builder
		for _, p := range l {
			fmt.Fprint(&b, p.Kind, p.Label, " ", p.Many, " ")
		}
		return b.String()
	}
	right := map[string]bool{}
	bySize := builtOf(4)
	for _, l := range bySize {
		for _, e := range l {
			right[key(e)] = true
		}
	}
	many := 0
	var check func(l api.Expr)
	check = func(l api.Expr) {
		if ast.Right(l) {
			many++
			if !right[key(l)] {
				t.Fatalf("valid: %v", l)
			}
		}
		if len(l) == 4 {
			return
		}
		for _, p := range parts {
			check(append(slices.Clip(l), p))
		}
	}
	check(nil)
	if many != len(right) {
		t.Errorf("%d are valid, want %d", many, len(right))
	}
}

// builtOf are all expressions of the parts of the test above, by their numbers of parts up to most.
func builtOf(most int) [][]api.Expr {
	bySize := make([][]sample, most+1)
	bySize[1] = []sample{name("x"), empty}
	for n := 2; n <= most; n++ {
		add := func(s sample) { bySize[n] = append(bySize[n], s) }
		for _, f := range []frame{binder(api.Fun, "x", unknown), get("a"), app, ifs} {
			eachKids(bySize, n-1, strings.Count(f.form, "#"), func(kids []sample) { add(join(f, kids...)) })
		}
		for _, labels := range [][]string{{"a"}, {"b"}, {"a", "b"}, {"b", "a"}} {
			eachKids(bySize, n-1, len(labels), func(kids []sample) { add(rows(labels, kids...)) })
		}
		eachKids(bySize, n-2, 2, func(k []sample) { add(match(k[0], branch("A", "x", k[1]))) })
	}
	l := make([][]api.Expr, most+1)
	for n, of := range bySize {
		for _, s := range of {
			l[n] = append(l[n], s.e)
		}
	}
	return l
}

// fields are a valid part, as the part with the index at of e, and what else its fields may be.
type fields struct {
	e             api.Expr
	at            int
	names, binds  []string
	many          []int
	nums          []int64
	types, others []int // T and U, as indices of someTypes
}

// someTypes are types of which those with the indices 1 to 7 are valid and plain, those from 2 to 5 the types of literals.
func someTypes() []api.Type {
	tower := append(slices.Repeat(api.Type{{Kind: api.Record, N: 1, Name: "a"}}, api.MaxDeep), api.Node{Kind: api.Int, Name: "a"})
	tower[0].Name = ""
	return []api.Type{
		nil, unknown, integer, truth, text, unit, {{Kind: api.Arrow}, {}, {Kind: api.Int}}, {{Kind: api.Union, N: 1}, {Kind: api.Bool, Name: "A"}},
		{{Kind: api.Var}}, {{Kind: api.Arrow}, {Kind: api.Int}, {Kind: api.Var, N: 1}}, {{Kind: api.Record, N: 1}, {Kind: api.Tail}}, {{Kind: api.Tail}},
		{{Kind: api.Int, N: 1}}, {{Kind: api.Int, Name: "a"}}, {{Kind: api.Int}, {Kind: api.Int}}, {{Kind: api.Arrow}, {Kind: api.Int}}, {{Kind: -1}}, {{Kind: 10}}, {{Kind: api.Union}}, tower,
		{{Kind: api.Record, N: 1}, {Kind: api.Int}}, {{Kind: api.Record, N: 2}, {Kind: api.Int, Name: "b"}, {Kind: api.Int, Name: "a"}}, {{Kind: api.String}, {}},
	}
}

var (
	someNames = []string{"", "x", "fun", "aB_9", "X", "Tag_1", "m!x", "in!of", "+", "-", "*", "/", "<", "==", "&&", "||", "++", "=", "%", ">", "->", "!", "&", "|", "!x", "x!", "X!x", "x!X", "m!n!x", "m!!x", "m!x!", "x y", " x", "x ", "1", "1x", "_x", "é", "x\n", "\xff", "x.y", "a\x00"}
	someManys = []int{math.MinInt, -50, -1, 0, 1, 2, 49, 50, 51, 52, 1000, math.MaxInt}
	someNums  = []int64{math.MinInt64, -1, 0, 1, 2, 50, 999_999_999_999_999_999, 1_000_000_000_000_000_000, math.MaxInt64}
)

// kinds are parts of all kinds, in which fields that are not mentioned have to be empty or 0.
func kinds() []fields {
	x := api.Part{Kind: api.Name, Name: "x"}
	words, tags := []string{"x", "fun", "aB_9"}, []string{"X", "Tag_1"}
	plain := []int{1, 2, 3, 4, 5, 6, 7}
	lit := func(t api.Type) api.Expr { return api.Expr{{Kind: api.Lit, T: t}} }
	return []fields{
		{e: lit(integer), nums: []int64{0, 1, 2, 50, 999_999_999_999_999_999}, types: []int{2, 3, 4, 5}},
		{e: lit(truth), nums: []int64{0, 1}, types: []int{2, 3, 4, 5}},
		{e: lit(text), names: someNames, types: []int{2, 3, 4, 5}},
		{e: lit(unit), types: []int{2, 3, 4, 5}},
		{e: api.Expr{{Kind: api.Lit, T: text, Name: "x"}}, names: someNames, types: []int{4}},
		{e: api.Expr{{Kind: api.Lit, T: truth, Num: 1}}, nums: []int64{0, 1}, types: []int{2, 3}},
		{e: api.Expr{{Kind: api.Lit, T: integer, Num: 2}}, nums: []int64{0, 1, 2, 50, 999_999_999_999_999_999}, types: []int{2}},
		{e: api.Expr{x}, names: append([]string{"m!x", "in!of"}, words...)},
		{e: api.Expr{{Kind: api.Fun, Bind: "x", T: unknown}, x}, binds: words, types: plain},
		{e: api.Expr{{Kind: api.App}, x, x}},
		{e: api.Expr{{Kind: api.Let, Bind: "x", T: unknown}, x, x}, binds: words, types: plain},
		{e: api.Expr{{Kind: api.Rec, Name: "x", Bind: "x", T: unknown, U: unknown}, x, x}, names: words, binds: words, types: plain, others: plain},
		{e: api.Expr{{Kind: api.If}, x, x, x}},
		{e: api.Expr{{Kind: api.Case, Many: 1}, x, {Kind: api.Branch, Label: "A", Bind: "x"}, x}, many: []int{1}},
		{e: api.Expr{{Kind: api.Case, Many: 1}, x, {Kind: api.Branch, Label: "A", Bind: "x"}, x}, at: 2, binds: words},
		{e: api.Expr{{Kind: api.Op, Name: "+"}, x, x}, names: []string{"+", "-", "*", "/", "<", "==", "&&", "||", "++"}},
		{e: api.Expr{{Kind: api.Rows}}, many: []int{0}},
		{e: api.Expr{{Kind: api.Rows, Many: 1}, {Kind: api.Name, Name: "x", Label: "a"}}, many: []int{1}},
		{e: api.Expr{{Kind: api.Get, Name: "x"}, x}, names: words},
		{e: api.Expr{{Kind: api.Inject, Name: "A", T: unknown}, x}, names: tags, types: plain},
		{e: api.Expr{{Kind: api.As, T: unknown}, x}, types: plain},
		{e: api.Expr{{Kind: api.Cast, T: unknown, U: unknown}, x}, nums: []int64{0, 1, 2, 50, 999_999_999_999_999_999, 1_000_000_000_000_000_000, math.MaxInt64}, types: plain, others: plain},
	}
}

// P5.1 (E1): which fields each kind of part uses, and what they may be.
func TestRightOfFields(t *testing.T) {
	for _, c := range kinds() {
		if !ast.Right(c.e) {
			t.Fatalf("%v", c.e)
		}
		check := func(want bool, change func(p *api.Part)) {
			t.Helper()
			e := slices.Clone(c.e)
			change(&e[c.at])
			if ast.Right(e) != want {
				t.Errorf("%#v: %v, want %v", e, !want, want)
			}
		}
		for _, s := range someNames {
			check(slices.Contains(c.names, s) || s == "" && c.names == nil, func(p *api.Part) { p.Name = s })
			check(slices.Contains(c.binds, s) || s == "" && c.binds == nil, func(p *api.Part) { p.Bind = s })
		}
		for _, n := range someManys {
			check(slices.Contains(c.many, n) || n == 0 && c.many == nil, func(p *api.Part) { p.Many = n })
		}
		for _, n := range someNums {
			check(slices.Contains(c.nums, n) || n == 0 && c.nums == nil, func(p *api.Part) { p.Num = n })
		}
		for i, x := range someTypes() {
			check(slices.Contains(c.types, i) || i == 0 && c.types == nil, func(p *api.Part) { p.T = x })
			check(slices.Contains(c.others, i) || i == 0 && c.others == nil, func(p *api.Part) { p.U = x })
		}
		check(c.types == nil, func(p *api.Part) { p.T = api.Type{} })
		check(c.others == nil, func(p *api.Part) { p.U = api.Type{} })
	}
}

// P5.1 (E1): there are no other kinds, and Branch is not one of an outermost part.
func TestRightOfKinds(t *testing.T) {
	for _, kind := range []int{math.MinInt, -2, -1, api.Branch, api.Cast + 1, api.Cast + 2, 100, math.MaxInt} {
		x := api.Part{Kind: api.Name, Name: "x"}
		for _, p := range []api.Part{{Kind: kind}, {Kind: kind, Label: "A", Bind: "x"}, {Kind: kind, Bind: "x"}, {Kind: kind, Name: "x", T: unknown}} {
			for _, e := range []api.Expr{{p}, {p, x}, {p, x, x}, {{Kind: api.As, T: unknown}, p}, {{Kind: api.As, T: unknown}, p, x}, {{Kind: api.App}, x, p, x}} {
				if ast.Right(e) {
					t.Errorf("%v", e)
				}
			}
		}
	}
}

// P5.1 (E1): where labels are, and which ones.
func TestRightOfLabels(t *testing.T) {
	x := name("x")
	word := func(s string) bool { return s == "x" || s == "fun" || s == "aB_9" }
	tag := func(s string) bool { return s == "X" || s == "Tag_1" }
	for _, s := range someNames {
		for i, c := range []struct {
			e    api.Expr
			at   int
			want bool
		}{
			{x.e, 0, s == ""}, {empty.e, 0, s == ""}, {rows([]string{"q"}, x).e, 0, s == ""}, {rows([]string{"q"}, x).e, 1, word(s)}, {rows([]string{"q", "r"}, x, x).e, 2, word(s)},
			{rows([]string{"q"}, join(app, x, x)).e, 2, s == ""}, {rows([]string{"q"}, rows([]string{"q"}, x)).e, 2, word(s)},
			{match(x, branch("A", "x", x)).e, 0, s == ""}, {match(x, branch("A", "x", x)).e, 1, s == ""}, {match(x, branch("A", "x", x)).e, 2, tag(s)}, {match(x, branch("A", "x", x)).e, 3, s == ""},
			{match(x, branch("A", "x", x), branch("B", "x", x)).e, 4, tag(s)}, {match(x, branch("A", "x", x), branch("B", "x", x)).e, 5, s == ""},
			{join(app, x, x).e, 1, s == ""}, {join(app, x, x).e, 2, s == ""}, {join(ifs, x, x, x).e, 3, s == ""}, {join(get("l"), x).e, 1, s == ""}, {join(inject("A", unknown), x).e, 1, s == ""},
			{join(binder(api.Let, "x", unknown), x, x).e, 1, s == ""}, {join(rec("f", "x", unknown, unknown), x, x).e, 2, s == ""}, {join(op("+"), x, x).e, 1, s == ""}, {join(as(unknown), x).e, 1, s == ""},
			{join(cast(0, unknown, unknown), x).e, 1, s == ""}, {join(binder(api.Fun, "x", unknown), x).e, 1, s == ""},
		} {
			e := slices.Clone(c.e)
			e[c.at].Label = s
			if ast.Right(e) != c.want {
				t.Errorf("%d, %q: want %v", i, s, c.want)
			}
		}
	}
}

// P5.1 (E1): the labels of the children of one part are different.
func TestRightOfEqualLabels(t *testing.T) {
	x := name("x")
	inner := func(tag string) sample { return branch(tag, "x", match(x, branch("A", "x", x))) }
	for i, c := range []struct {
		s    sample
		want bool
	}{
		{rows([]string{"a", "a"}, x, x), false}, {rows([]string{"a", "b", "a"}, x, x, x), false}, {rows([]string{"b", "a", "a"}, x, x, x), false}, {rows([]string{"c", "b", "a"}, x, x, x), true},
		{rows([]string{"a", "b"}, rows([]string{"a", "b"}, x, x), rows([]string{"b", "a"}, x, x)), true}, {rows([]string{"a"}, rows([]string{"b", "b"}, x, x)), false}, {rows([]string{"a", "aa", "a_", "aA"}, x, x, x, x), true},
		{match(x, branch("A", "x", x), branch("A", "y", x)), false}, {match(x, branch("A", "x", x), branch("B", "x", x), branch("A", "x", x)), false}, {match(x, branch("C", "x", x), branch("B", "x", x), branch("A", "x", x)), true},
		{match(match(x, branch("A", "x", x)), inner("A"), inner("B")), true}, {match(x, branch("B", "x", match(x, branch("A", "x", x), branch("A", "x", x)))), false},
		{rows([]string{"a", "b"}, match(x, inner("A")), match(x, inner("A"))), true},
	} {
		if ast.Right(c.s.e) != c.want {
			t.Errorf("%d: %s", i, c.s.text)
		}
	}
}

// P5.1 (E1): branches are all children of a Case after the first one, and occur nowhere else.
func TestRightOfBranches(t *testing.T) {
	x := name("x")
	a, b := branch("A", "x", x), branch("B", "x", x)
	for i, s := range []sample{
		a, match(a, b), match(x, x), match(x, a, x), match(x, x, b), match(x, marked("A", x)), match(x, a, marked("B", x)), match(x, marked("A", x), b), match(x, branch("A", "x", b)), match(x, branch("A", "x", marked("", b))),
		join(app, a, x), join(app, x, a), join(ifs, x, x, a), join(get("l"), a), join(as(unknown), a), join(op("+"), a, b), join(binder(api.Fun, "x", unknown), a), join(binder(api.Let, "x", unknown), x, a), join(rec("f", "x", unknown, unknown), a, x),
		join(inject("A", unknown), a), join(cast(0, unknown, unknown), a), rows([]string{"a"}, a), rows([]string{"A"}, a), marked("", a), marked("a", a), join(app, marked("", a), x),
	} {
		if ast.Right(s.e) {
			t.Errorf("%d: %s", i, s.text)
		}
	}
}

func numbered(prefix string, n int) []string {
	l := make([]string, n)
	for i := range l {
		l[i] = prefix + strconv.Itoa(i)
	}
	return l
}

// P5.1 (E1): records of at most 50 children, and of 1 to 50 branches.
func TestRightOfManyChildren(t *testing.T) {
	x := name("x")
	for n := range 53 {
		l := slices.Repeat([]sample{x}, n)
		if e := rows(numbered("a", n), l...).e; ast.Right(e) != (n <= 50) {
			t.Errorf("%d children", n)
		}
		e := append(api.Expr{{Kind: api.Case, Many: n}}, x.e...)
		for _, tag := range numbered("A", n) {
			e = append(e, branch(tag, "x", x).e...)
		}
		if ast.Right(e) != (1 <= n && n <= 50) {
			t.Errorf("%d branches", n)
		}
	}
}

// P5.1 (E1): exactly one tree.
func TestRightOfNotOneTree(t *testing.T) {
	if ast.Right(nil) || ast.Right(api.Expr{}) {
		t.Error("nothing is valid")
	}
	for _, s := range slices.Concat(grown(4, []sample{name("x")}, fewest())...) {
		for n := range s.e {
			if ast.Right(s.e[:n]) {
				t.Fatalf("%d parts of %s", n, s.text)
			}
		}
		for _, more := range []api.Expr{name("x").e, empty.e, join(app, name("x"), name("x")).e, branch("A", "x", name("x")).e, marked("a", name("x")).e} {
			if ast.Right(slices.Concat(s.e, more)) {
				t.Fatalf("%s and %v", s.text, more)
			}
		}
	}
}

// towers are expressions of this depth (3 at least), for each kind of part that has children, and for each of these children.
func towers(depth int) []sample {
	x := name("x")
	tower := func(floors int, floor func(sample) sample) sample {
		s := x
		for range floors {
			s = floor(s)
		}
		return s
	}
	l := []sample{
		tower(depth-1, func(s sample) sample { return rows([]string{"a"}, s) }),
		tower(depth-1, func(s sample) sample { return rows([]string{"b", "a", "c"}, x, s, x) }),
		tower(depth-2, func(s sample) sample { return match(s, branch("A", "x", x), branch("B", "x", x)) }), // the branches of the last one are deeper
		tower(depth-1, func(s sample) sample { return join(cast(5, unknown, integer), s) }),
	}
	for _, f := range fewest() {
		for i := range strings.Count(f.form, "#") {
			l = append(l, tower(depth-1, func(s sample) sample {
				kids := slices.Repeat([]sample{x}, strings.Count(f.form, "#"))
				kids[i] = s
				return join(f, kids...)
			}))
		}
	}
	for i := range 2 { // a case with a branch has two floors
		s := x
		if depth%2 == 0 {
			s = join(get("l"), x)
		}
		for range (depth - 1) / 2 {
			kids := []sample{branch("B", "x", x), branch("A", "y", x)}
			kids[i] = branch("C", "z", s)
			s = match(x, kids...)
		}
		l = append(l, s)
	}
	return l
}

// flat is an expression of n parts that is not deep.
func flat(n int) sample {
	switch {
	case n == 1:
		return name("x")
	case n%2 == 0:
		return join(get("l"), flat(n-1))
	}
	half := (n - 1) / 2
	return join(op("+"), flat(half), flat(n-1-half))
}

// P5.1 (E1): the limits.
func TestRightOfLargeExpressions(t *testing.T) {
	for _, depth := range []int{3, 4, api.MaxDeep - 1, api.MaxDeep, api.MaxDeep + 1, api.MaxDeep + 2, 200} {
		for i, s := range towers(depth) {
			if ast.Right(s.e) != (depth <= api.MaxDeep) {
				t.Errorf("%d, %d deep", i, depth)
			}
		}
	}
	for n := api.MaxNodes - 3; n < api.MaxNodes+4; n++ {
		if s := flat(n); len(s.e) != n || ast.Right(s.e) != (n <= api.MaxNodes) {
			t.Errorf("%d parts", n)
		}
	}
	large := api.Type{{Kind: api.Record}}
	for i := range 50 {
		large[0].N++
		large = append(large, api.Node{Kind: api.Int, Name: "a" + strconv.Itoa(100+i)})
	}
	if e := slices.Concat(slices.Repeat(api.Expr{{Kind: api.As, T: large}}, api.MaxDeep-1), name("x").e); !ast.Right(e) { // the nodes of types do not count
		t.Error("types are large")
	}
	deep := slices.Repeat(api.Type{{Kind: api.Record, N: 1, Name: "a"}}, api.MaxDeep)
	deep[0].Name, deep[api.MaxDeep-1].N = "", 0
	if e := slices.Concat(slices.Repeat(api.Expr{{Kind: api.As, T: deep}}, api.MaxDeep-1), name("x").e); !ast.Right(e) { // nor do their depths
		t.Error("types are deep")
	}
}

// resited is e, in which each ? has another site.
func resited(e api.Expr, site int) api.Expr {
	other := func(t api.Type) api.Type {
		u := slices.Clone(t)
		for i := range u {
			if u[i].Kind == api.Dyn {
				u[i].N = site
				site++
			}
		}
		return u
	}
	f := slices.Clone(e)
	for i := range f {
		f[i].T, f[i].U = other(f[i].T), other(f[i].U)
	}
	return f
}

// P5.1 (E1): sites do not count, and everything else does, whatever the parts are.
func TestSame(t *testing.T) {
	var l []api.Expr
	for _, p := range []api.Part{
		{}, {Kind: 1}, {Kind: -1}, {Kind: 99}, {Label: "a"}, {Label: "b"}, {Name: "a"}, {Name: "b"}, {Bind: "a"}, {Bind: "b"}, {Many: 1}, {Many: 2}, {Many: -1}, {Num: 1}, {Num: 2}, {Num: -1},
	} {
		l = append(l, api.Expr{p})
	}
	for _, x := range []api.Type{
		unknown, integer, {{Kind: api.Var}}, {{Kind: api.Var, N: 1}}, {{Kind: api.Arrow}, {}, {}}, {{Kind: api.Arrow}, {}, {Kind: api.Int}}, {{Kind: api.Arrow}, {}}, {{}, {}}, {{Name: "a"}}, {{Name: "b"}},
		{{Kind: api.Record, N: 1}, {Kind: api.Tail}}, {{Kind: api.Record, N: 1}, {Kind: api.Tail, N: 1}}, {{Kind: api.Record, N: 2}, {Kind: api.Tail}}, {{Kind: 99}}, {{Kind: -1, N: -1}},
	} {
		l = append(l, api.Expr{{T: x}}, api.Expr{{U: x}}, api.Expr{{T: x, U: x}}, api.Expr{{Kind: api.Cast, T: x, U: integer}})
	}
	l = append(l, nil, api.Expr{{}, {}}, api.Expr{{}, {Name: "a"}}, api.Expr{{Name: "a"}, {}}, api.Expr{{Kind: api.As, T: unknown}, {}}, api.Expr{{}, {Kind: api.As, T: unknown}})
	for i, a := range l {
		for j, b := range l {
			for _, site := range []int{0, 1, 3, 12, math.MaxInt - 9} {
				if other := resited(b, site); ast.Same(a, other) != (i == j) || ast.Same(other, a) != (i == j) {
					t.Errorf("%v %v", a, other)
				}
			}
		}
	}
	if !ast.Same(nil, api.Expr{}) || !ast.Same(api.Expr{{T: api.Type{}}}, api.Expr{{U: api.Type{}}}) {
		t.Error("nothing is the same as nothing")
	}
	for n := range 6 {
		a := slices.Repeat(api.Expr{{Kind: api.Branch, Many: 7}}, n)
		if !ast.Same(a, slices.Clone(a)) || ast.Same(a, append(slices.Clone(a), api.Part{})) {
			t.Errorf("%v", a)
		}
	}
}

// P5.1 (E2): the printed form.
func TestPrint(t *testing.T) {
	for _, s := range all() {
		if got := ast.Print(s.e); got != s.text {
			t.Fatalf("%s, want %s", got, s.text)
		}
	}
	x, y := name("x"), name("y")
	arrow := api.Type{{Kind: api.Arrow}, {Kind: api.Arrow}, {Kind: api.Int}, {N: 7}, {Kind: api.Unit}}
	row := api.Type{{Kind: api.Record, N: 2}, {Kind: api.Bool, Name: "a"}, {Kind: api.String, Name: "b"}}
	sum := api.Type{{Kind: api.Union, N: 2}, {Kind: api.Int, Name: "A"}, {Name: "B"}}
	quoted := func(s string) sample { return leaf(api.Part{Kind: api.Lit, T: text, Name: s}, "") }
	for _, c := range []struct {
		s    sample
		want string
	}{
		{join(binder(api.Fun, "x", arrow), join(app, join(app, x, y), join(app, y, x))), "(fun (x: (int -> ?) -> unit) -> ((x y) (y x)))"},
		{join(binder(api.Let, "x", row), number(1), join(binder(api.Let, "y", unknown), x, y)), "(let x: {a: bool, b: string} = 1 in (let y: ? = x in y))"},
		{join(rec("f", "x", sum, arrow), y, join(app, name("f"), x)), "(rec f (x: [A: int | B: ?]): (int -> ?) -> unit = y in (f x))"},
		{join(ifs, join(op("<"), x, y), join(op("-"), x, number(10)), join(op("&&"), x, join(op("||"), y, y))), "(if (x < y) then (x - 10) else (x && (y || y)))"},
		{match(x, branch("A", "x", y), branch("C", "y", x), branch("B", "z", x)), "(case x of A x -> y | C y -> x | B z -> x end)"},
		{match(x, branch("A", "x", match(y, branch("B", "y", x)))), "(case x of A x -> (case y of B y -> x end) end)"},
		{match(x, branch("A", "x", join(binder(api.Fun, "y", truth), y)), branch("B", "x", rows([]string{"a"}, x))), "(case x of A x -> (fun (y: bool) -> y) | B x -> {a = x} end)"},
		{rows([]string{"b", "a", "c"}, number(1), rows([]string{"a"}, empty), join(get("c"), x)), "{b = 1, a = {a = {}}, c = x.c}"},
		{join(get("b"), join(get("a"), join(app, x, name("m!y")))), "(x m!y).a.b"}, {join(get("l"), number(5)), "5.l"}, {join(get("l"), name("m!x")), "m!x.l"}, {join(get("l"), quoted("a")), `"a".l`},
		{join(inject("A", sum), join(as(row), x)), "[A = (x: {a: bool, b: string}): [A: int | B: ?]]"},
		{join(cast(3, arrow, unknown), join(cast(1, unknown, arrow), x)), "<<x: ? => (int -> ?) -> unit>: (int -> ?) -> unit => ?>"},
		{join(op("=="), join(op("*"), x, y), join(op("/"), x, join(op("++"), x, y))), "((x * y) == (x / (x ++ y)))"},
		{name("fun"), "fun"}, {name("true"), "true"}, {quoted("a\\\"\t\x01\x7fé\xff"), `"a\\\"\t\x01\x7fé\xff"`}, {quoted("# {x}"), `"# {x}"`}, {quoted("\r\a\u00a0"), "\"\\x0d\\x07\u00a0\""},
	} {
		if got := ast.Print(c.s.e); got != c.want || !ast.Right(c.s.e) {
			t.Errorf("%s, want %s", got, c.want)
		}
	}
}

func TestPrintOfLargeExpressions(t *testing.T) {
	for _, s := range append(towers(api.MaxDeep), flat(api.MaxNodes), flat(api.MaxNodes-1)) {
		if got := ast.Print(s.e); got != s.text {
			t.Fatalf("%.99s, want %.99s", got, s.text)
		}
	}
	x := name("x")
	var parts, cases []string
	var kids []sample
	for i := range 50 {
		parts, cases = append(parts, fmt.Sprintf("l%d = x", i)), append(cases, fmt.Sprintf("T%d x -> x", i))
		kids = append(kids, branch("T"+strconv.Itoa(i), "x", x))
	}
	if got := ast.Print(rows(numbered("l", 50), slices.Repeat([]sample{x}, 50)...).e); got != "{"+strings.Join(parts, ", ")+"}" {
		t.Error(got)
	}
	if got := ast.Print(match(x, kids...).e); got != "(case x of "+strings.Join(cases, " | ")+" end)" {
		t.Error(got)
	}
}

// P5.1 (E2): where trees end, and what their children are.
func TestNodes(t *testing.T) {
	for _, s := range append(all(), towers(9)...) {
		checkNodes(t, s, s.e, 0)
	}
}

// checkNodes checks that the tree at part at of e is s.
func checkNodes(t *testing.T, s sample, e api.Expr, at int) {
	t.Helper()
	kids := ast.Kids(e, at)
	if len(kids) != len(s.kids) || ast.End(e, at) != at+len(s.e) {
		t.Fatalf("%s at %d: %v, %d", s.text, at, kids, ast.End(e, at))
	}
	to := at + 1
	for i, k := range s.kids {
		if kids[i] != to {
			t.Fatalf("%s at %d: %v", s.text, at, kids)
		}
		checkNodes(t, k, e, to)
		to += len(k.e)
	}
}

func TestNodesThatAreNone(t *testing.T) {
	x := name("x")
	for _, s := range []sample{x, empty, join(app, x, x), match(x, branch("A", "x", x)), rows([]string{"a"}, x), flat(1000)} {
		n := len(s.e)
		for _, i := range []int{math.MinInt, -n, -2, -1, n, n + 1, 2 * n, math.MaxInt} {
			if ast.End(s.e, i) != -1 || len(ast.Kids(s.e, i)) != 0 {
				t.Errorf("%.99s %d: %d %v", s.text, i, ast.End(s.e, i), ast.Kids(s.e, i))
			}
		}
	}
}

func TestNodesOfLargeExpressions(t *testing.T) {
	for _, s := range append(towers(api.MaxDeep), flat(api.MaxNodes), flat(api.MaxNodes-1)) {
		for i := range s.e {
			to := i + 1
			for _, k := range ast.Kids(s.e, i) {
				if k != to {
					t.Fatalf("%d: %v", i, ast.Kids(s.e, i))
				}
				to = ast.End(s.e, k)
			}
			if ast.End(s.e, i) != to {
				t.Fatalf("%d: %d, want %d", i, ast.End(s.e, i), to)
			}
		}
		if ast.End(s.e, 0) != len(s.e) {
			t.Fatalf("%d, want %d", ast.End(s.e, 0), len(s.e))
		}
	}
}

func keys(set map[string]bool) []string {
	var l []string
	for s := range set {
		l = append(l, s)
	}
	slices.Sort(l)
	return l
}

// P5.1 (E2): the free names, in strictly ascending order.
func TestFree(t *testing.T) {
	for _, s := range append(all(), towers(api.MaxDeep)...) {
		if got := ast.Free(s.e); !slices.Equal(got, keys(s.free)) {
			t.Fatalf("%s: %q, want %q", s.text, got, keys(s.free))
		}
	}
	x, y, f, q := name("x"), name("y"), name("f"), name("x!y")
	xy := join(app, x, y)
	fxy := join(app, f, xy)
	for _, c := range []struct {
		s    sample
		want string
	}{
		{join(binder(api.Fun, "x", unknown), join(op("+"), x, y)), "y"}, {join(app, join(binder(api.Fun, "x", unknown), x), x), "x"}, {join(app, x, join(binder(api.Fun, "x", unknown), x)), "x"},
		{join(binder(api.Let, "x", unknown), x, number(1)), "x"}, {join(binder(api.Let, "x", unknown), y, x), "y"}, {join(binder(api.Let, "x", unknown), xy, xy), "x y"}, {join(binder(api.Let, "y", unknown), number(1), xy), "x"},
		{join(rec("f", "x", unknown, unknown), fxy, number(1)), "y"}, {join(rec("f", "x", unknown, unknown), number(1), fxy), "x y"}, {join(rec("x", "x", unknown, unknown), xy, xy), "y"}, {join(rec("y", "x", unknown, unknown), xy, xy), "x"},
		{join(app, join(rec("f", "x", unknown, unknown), f, f), xy), "x y"}, {join(app, join(rec("f", "x", unknown, unknown), f, f), f), "f"},
		{match(x, branch("A", "x", x)), "x"}, {match(y, branch("A", "x", x)), "y"}, {match(number(1), branch("A", "x", x), branch("B", "y", x)), "x"}, {match(number(1), branch("A", "x", xy), branch("B", "y", xy)), "x y"}, {match(number(1), branch("A", "x", number(1)), branch("B", "y", y)), ""},
		{join(binder(api.Fun, "y", unknown), join(app, q, y)), "x!y"}, {join(binder(api.Fun, "x", unknown), q), "x!y"}, {join(app, name("b!a"), join(app, name("a!b"), name("a"))), "a a!b b!a"},
		{join(ifs, name("z"), join(app, name("b"), name("aB")), join(app, name("a_"), join(app, name("a1"), name("z")))), "a1 aB a_ b z"}, {join(binder(api.Fun, "x", unknown), join(app, join(binder(api.Fun, "x", unknown), x), x)), ""},
		{rows([]string{"x", "y"}, number(1), y), "y"}, {join(get("x"), y), "y"}, {leaf(api.Part{Kind: api.Lit, T: text, Name: "x"}, ""), ""}, {empty, ""}, {join(app, x, join(app, x, join(app, x, x))), "x"}, {name("fun"), "fun"},
		{join(binder(api.Fun, "x", unknown), join(binder(api.Fun, "y", unknown), join(app, x, y))), ""}, {join(binder(api.Fun, "x", unknown), join(app, join(binder(api.Fun, "y", unknown), xy), xy)), "y"},
		{join(inject("A", unknown), join(as(unknown), join(cast(1, unknown, unknown), x))), "x"}, {join(binder(api.Let, "x", unknown), join(binder(api.Let, "x", unknown), number(1), x), x), ""}, {join(binder(api.Fun, "x", unknown), name("x1")), "x1"},
	} {
		if got := ast.Free(c.s.e); strings.Join(got, " ") != c.want || !ast.Right(c.s.e) {
			t.Errorf("%s: %q, want %s", c.s.text, got, c.want)
		}
	}
}

func TestFreeOfManyNames(t *testing.T) {
	s, want := name("x0"), []string{"x0"}
	for i := 97; i >= 0; i-- { // the outermost one binds x0
		if got := ast.Free(s.e); !slices.Equal(got, want) {
			t.Fatalf("%d: %q, want %q", i, got, want)
		}
		s = join(binder(api.Fun, "x"+strconv.Itoa(i), unknown), s)
	}
	if got := ast.Free(s.e); len(got) != 0 {
		t.Fatalf("%q", got)
	}
	var kids []sample
	for i := range 50 {
		var inner []sample
		for j := range 50 {
			inner = append(inner, name(fmt.Sprintf("v%d", 2500-50*i-j)))
		}
		kids = append(kids, rows(numbered("l", 50), inner...))
	}
	want = nil
	for i := range 2500 {
		want = append(want, fmt.Sprintf("v%d", i+1))
	}
	slices.Sort(want)
	all := rows(numbered("l", 50), kids...)
	if got := ast.Free(all.e); !slices.Equal(got, want) {
		t.Errorf("%d names", len(got))
	}
	if got := ast.Free(join(binder(api.Fun, "v1", unknown), all).e); !slices.Equal(got, want[1:]) {
		t.Errorf("%d names", len(got))
	}
}

// hasKeys reports whether a name in e is a key.
func hasKeys(e api.Expr) bool {
	return slices.ContainsFunc(e, func(p api.Part) bool {
		return slices.ContainsFunc(strings.Split(p.Name, "!"), lex.IsKey) && p.Kind != api.Lit || lex.IsKey(p.Bind) || lex.IsKey(p.Label)
	})
}

// P5.2: the printed form tells all expressions without casts apart, up to sites.
func TestPrintedFormsAreUnique(t *testing.T) {
	seen := map[string]api.Expr{}
	var one []api.Expr // of each printed form
	for _, s := range samples() {
		if hasKeys(s.e) {
			t.Fatalf("%s has a key", s.text)
		}
		form := ast.Print(s.e)
		if other, ok := seen[form]; !ok {
			seen[form] = s.e
			one = append(one, s.e)
		} else if !ast.Same(s.e, other) {
			t.Fatalf("%s: %v and %v", form, s.e, other)
		}
		other := resited(s.e, 20)
		if ast.Print(other) != form || !ast.Same(s.e, other) {
			t.Fatalf("%s: %s with other sites", form, ast.Print(other))
		}
	}
	for i, a := range one[:300] {
		for j, b := range one {
			if ast.Same(a, b) != (i == j) {
				t.Fatalf("%s and %s", ast.Print(a), ast.Print(b))
			}
		}
	}
}

// alone is the expression at part i of e, or nothing if it is a branch.
func alone(e api.Expr, i int) api.Expr {
	if e[i].Kind == api.Branch {
		return nil
	}
	f := slices.Clone(e[i:ast.End(e, i)])
	f[0].Label = ""
	return f
}

// P5.3: a name that is free in a part is free in the whole expression, or bound by a surrounding part.
func TestFreeNamesOfParts(t *testing.T) {
	for _, s := range append(casts(), slices.Concat(grown(5, []sample{name("x"), name("f"), name("m!x")}, fewest())...)...) {
		free := ast.Free(s.e)
		var visit func(i int, bound []string)
		visit = func(i int, bound []string) {
			p := s.e[i]
			if f := alone(s.e, i); f != nil {
				for _, x := range ast.Free(f) {
					if !slices.Contains(free, x) && !slices.Contains(bound, x) {
						t.Fatalf("%s: %s in %s", s.text, x, ast.Print(f))
					}
				}
			}
			for k, kid := range ast.Kids(s.e, i) {
				inner := slices.Clone(bound)
				switch {
				case p.Kind == api.Fun, p.Kind == api.Branch, p.Kind == api.Let && k == 1:
					inner = append(inner, p.Bind)
				case p.Kind == api.Rec && k == 0:
					inner = append(inner, p.Name, p.Bind)
				case p.Kind == api.Rec:
					inner = append(inner, p.Name)
				}
				visit(kid, inner)
			}
		}
		visit(0, nil)
	}
}

// Arguments stay as they are, also beyond their lengths, and results are new.
func TestMemory(t *testing.T) {
	x := name("x")
	s := join(rec("f", "x", unknown, integer), match(x, branch("B", "y", join(app, name("z"), name("a"))), branch("A", "x", x)), join(app, name("f"), rows([]string{"b", "a"}, name("c"), x)))
	copied := func(e api.Expr) api.Expr {
		f := slices.Clone(e)
		for i := range f {
			f[i].T, f[i].U = slices.Clone(f[i].T), slices.Clone(f[i].U)
		}
		return f
	}
	whole := append(copied(s.e), copied(s.e)...)
	before := copied(whole)
	e := whole[:len(s.e)]
	for range 2 {
		kids, free := ast.Kids(e, 0), ast.Free(e)
		if !slices.Equal(kids, []int{1, 9}) || !slices.Equal(free, []string{"a", "c", "x", "z"}) || ast.Print(e) != s.text || !ast.Right(e) || !ast.Same(e, s.e) || ast.End(e, 1) != 9 {
			t.Errorf("%v %q %s", kids, free, ast.Print(e))
		}
		for i := range kids {
			kids[i] = 77
		}
		for i := range free {
			free[i] = "q"
		}
	}
	if !reflect.DeepEqual(whole, before) {
		t.Errorf("changed: %v", whole)
	}
}

// Whatever is passed, calls end, and do not panic.
func TestAnyParts(t *testing.T) {
	var parts []api.Part
	for kind := -1; kind <= api.Cast+1; kind++ {
		for _, n := range []int{math.MinInt, -1, 0, 2, math.MaxInt} {
			parts = append(parts, api.Part{Kind: kind, Many: n}, api.Part{Kind: kind, Label: "a", Name: "x", Bind: "x", Many: n, Num: -1, T: api.Type{{Kind: api.Arrow}}, U: api.Type{{Kind: 99}}})
		}
	}
	call := func(e api.Expr) {
		ast.Right(e)
		ast.Print(e)
		ast.Free(e)
		ast.Same(e, e[:len(e)/2])
		for i := -1; i <= len(e); i++ {
			ast.End(e, i)
			ast.Kids(e, i)
		}
	}
	call(nil)
	for _, a := range parts {
		call(api.Expr{a})
		for _, b := range parts {
			call(api.Expr{a, b})
			call(api.Expr{a, b, a})
			call(api.Expr{a, a, b, b})
		}
	}
	for _, kind := range []int{api.Fun, api.App, api.Rec, api.If} {
		deep := slices.Repeat(api.Expr{{Kind: kind}}, 1<<16)
		ast.Right(deep)
		ast.Print(deep)
		ast.Kids(deep, 0)
		ast.End(deep, 1)
	}
}
