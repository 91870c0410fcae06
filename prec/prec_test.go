package prec_test

import (
	"math"
	"slices"
	"strconv"
	"strings"
	"testing"

	"leaven/api"
	"leaven/lex"
	"leaven/prec"
	"leaven/tread"
	"leaven/ty"
)

// read is the type of a text, with sites from the given one on.
func read(t *testing.T, s string, site int) api.Type {
	t.Helper()
	l, _, e := lex.Tokens(s)
	if e != api.OK {
		t.Fatalf("%q: %d", s, e)
	}
	x, next, _, _, e := tread.Read(l, 0, site, 1)
	if e != api.OK || next != len(l)-1 {
		t.Fatalf("%q: %d", s, e)
	}
	return x
}

// marked is the printed form of a type in which the site of each ? stands behind it, if there is one.
func marked(l api.Type) string {
	parts := strings.Split(ty.Print(l), "?")
	at := 0
	for _, n := range l {
		if n.Kind == api.Dyn {
			parts[at] += "?"
			if n.N != 0 {
				parts[at] += strconv.Itoa(n.N)
			}
			at++
		}
	}
	return strings.Join(parts, "")
}

// P7.1 (G1): the ? of the first type have the sites from 1 on, those of the second one from 51 on. There is no meet if want is empty.
func TestMeet(t *testing.T) {
	for _, c := range []struct{ a, b, want string }{
		{"?", "?", "?1"}, {"int", "?", "int"}, {"?", "int", "int"}, {"int", "int", "int"}, {"int", "bool", ""},
		{"? -> int", "bool -> ?", "bool -> int"}, {"bool -> ?", "? -> int", "bool -> int"}, {"? -> ?", "? -> ?", "?1 -> ?2"},
		{"?", "? -> ?", "?51 -> ?52"}, {"? -> ?", "?", "?1 -> ?2"}, {"? -> ?", "? -> {a: ?}", "?1 -> {a: ?52}"}, {"? -> {a: ?}", "? -> ?", "?1 -> {a: ?2}"},
		{"? -> ? -> ?", "int -> ?", "int -> ?2 -> ?3"}, {"int -> ?", "? -> ? -> ?", "int -> ?52 -> ?53"}, {"(? -> ?) -> ?", "? -> ? -> ?", "(?1 -> ?2) -> ?52 -> ?53"},
		{"int -> int", "int -> bool", ""}, {"int -> int", "bool -> int", ""}, {"? -> int", "? -> bool", ""}, {"int -> ?", "bool -> ?", ""},
		{"int -> int -> int", "(int -> int) -> int", ""}, {"int -> int", "int", ""}, {"int", "int -> int", ""}, {"?", "int -> int", "int -> int"},
		{"{}", "{}", "{}"}, {"{}", "?", "{}"}, {"?", "{}", "{}"}, {"{}", "{a: int}", ""}, {"{a: int}", "{}", ""}, {"{}", "{a: ?}", ""}, {"{}", "int", ""}, {"{}", "unit", ""},
		{"{a: ?}", "{a: ?}", "{a: ?1}"}, {"{a: ?}", "{a: int}", "{a: int}"}, {"{a: int}", "{a: ?}", "{a: int}"}, {"{a: int}", "{a: bool}", ""},
		{"{a: ?}", "{b: ?}", ""}, {"{a: ?}", "{b: int}", ""}, {"{a: int}", "{b: int}", ""}, {"{a: ?}", "{aa: ?}", ""}, {"{a: ?}", "{a: ?, b: ?}", ""}, {"{a: ?, b: ?}", "{a: ?}", ""}, {"{a: ?, b: ?}", "{a: ?, c: ?}", ""},
		{"{a: ?, b: int}", "{a: bool, b: ?}", "{a: bool, b: int}"}, {"{b: ?, a: ?}", "{a: {c: ?}, b: ?}", "{a: {c: ?51}, b: ?1}"}, {"{a: int, b: bool}", "{a: bool, b: int}", ""}, {"{a: int, b: bool}", "{a: int, b: int}", ""},
		{"{a: {b: ?}}", "{a: {b: {c: ?}}}", "{a: {b: {c: ?51}}}"}, {"{a: {b: ?}}", "{b: {a: ?}}", ""}, {"{a: ?}", "{a: ? -> int}", "{a: ?51 -> int}"}, {"{a: ?}", "?", "{a: ?1}"}, {"?", "{a: ?}", "{a: ?51}"},
		{"[A: ?]", "[A: int]", "[A: int]"}, {"[A: int | B: ?]", "[A: ? | B: {}]", "[A: int | B: {}]"}, {"[A: int | B: ?]", "[A: int]", ""}, {"[A: ?]", "[A: ? | B: ?]", ""}, {"[A: ?]", "[B: ?]", ""}, {"[A: int]", "[A: bool]", ""},
		{"[A: ?]", "?", "[A: ?1]"}, {"?", "[A: ?]", "[A: ?51]"}, {"[A: ?]", "{a: ?}", ""}, {"{a: ?}", "[A: ?]", ""}, {"[A: ?]", "int", ""}, {"[A: ?]", "? -> ?", ""}, {"{a: ?, b: ?}", "? -> ?", ""},
		{"{a: ? -> ?, b: [A: ? | B: ?]} -> ?", "{a: ?, b: ?} -> {}", "{a: ?1 -> ?2, b: [A: ?3 | B: ?4]} -> {}"}, {"{a: ?, b: ?} -> {}", "{a: ? -> ?, b: [A: ? | B: ?]} -> ?", "{a: ?51 -> ?52, b: [A: ?53 | B: ?54]} -> {}"},
		{"? -> ? -> ? -> ? -> ?", "int -> ? -> (? -> ?) -> ? -> {a: ?}", "int -> ?2 -> (?52 -> ?53) -> ?4 -> {a: ?55}"}, {"{a: int, b: ?, c: ?}", "{a: ?, b: int, c: ?}", "{a: int, b: int, c: ?2}"},
	} {
		a, b := read(t, c.a, 1), read(t, c.b, 51)
		m, e := prec.Meet(a, b)
		if c.want == "" && (e != api.ErrType || len(m) != 0) || c.want != "" && (e != api.OK || marked(m) != c.want || !ty.Right(m)) {
			t.Errorf("%s, %s: %s %d, want %s", c.a, c.b, marked(m), e, c.want)
		}
		if prec.Agree(a, b) != (c.want != "") || prec.Agree(b, a) != (c.want != "") {
			t.Errorf("%s, %s: %v %v", c.a, c.b, prec.Agree(a, b), prec.Agree(b, a))
		}
	}
}

// P7.1 (G1): precision.
func TestBelow(t *testing.T) {
	for _, c := range []struct {
		a, b string
		want bool
	}{
		{"?", "?", true}, {"int", "?", true}, {"?", "int", false}, {"int", "int", true}, {"int", "bool", false},
		{"int -> ?", "? -> ?", true}, {"? -> ?", "int -> ?", false}, {"int -> ?", "int -> bool", false}, {"int -> bool", "int -> ?", true}, {"int -> ?", "? -> int", false}, {"? -> int", "? -> ?", true}, {"? -> ?", "? -> ?", true},
		{"? -> ?", "?", true}, {"?", "? -> ?", false}, {"int -> int -> int", "int -> ?", true}, {"(int -> int) -> int", "? -> int", true}, {"int -> ?", "int -> ? -> ?", false}, {"int -> int", "int -> bool", false}, {"int -> int", "int", false},
		{"{}", "?", true}, {"?", "{}", false}, {"{}", "{}", true}, {"{a: int}", "{a: ?}", true}, {"{a: ?}", "{a: int}", false}, {"{a: int}", "{b: ?}", false}, {"{a: int}", "{}", false}, {"{}", "{a: ?}", false},
		{"{a: int, b: int}", "{a: int}", false}, {"{a: int}", "{a: int, b: ?}", false}, {"{a: int, b: ?}", "{a: ?, b: ?}", true}, {"{a: int, b: ?}", "{a: ?, b: int}", false}, {"{a: int, b: bool}", "{a: ?, b: int}", false},
		{"[A: int]", "[A: ?]", true}, {"[A: ?]", "[A: int]", false}, {"[A: int]", "[B: ?]", false}, {"[A: int | B: ?]", "[A: ? | B: ?]", true}, {"[A: ?]", "[A: ? | B: ?]", false}, {"[A: ?]", "{a: ?}", false}, {"[A: ?]", "?", true},
		{"{a: {b: [C: int -> ?]}}", "{a: {b: [C: ?]}}", true}, {"{a: {b: [C: ?]}}", "{a: {b: [C: ? -> ?]}}", false}, {"{a: int} -> [A: ?]", "{a: ?} -> ?", true},
	} {
		if got := prec.Below(read(t, c.a, 1), read(t, c.b, 51)); got != c.want {
			t.Errorf("%s, %s: %v", c.a, c.b, got)
		}
	}
}

// P7.1 (G1): the kinds are told apart.
func TestKinds(t *testing.T) {
	l := []string{"int", "bool", "string", "unit", "int -> int", "{}", "{a: int, b: int}", "[A: int]", "[A: int | B: int]"}
	for i, a := range l {
		for j, b := range l {
			x, y := read(t, a, 1), read(t, b, 1)
			m, e := prec.Meet(x, y)
			if prec.Agree(x, y) != (i == j) || prec.Below(x, y) != (i == j) || (e == api.OK) != (i == j) || i == j && ty.Print(m) != a {
				t.Errorf("%s, %s: %v %v %v %d", a, b, prec.Agree(x, y), prec.Below(x, y), m, e)
			}
		}
		x, unknown := read(t, a, 1), read(t, "?", 1)
		if !prec.Agree(x, unknown) || !prec.Agree(unknown, x) || !prec.Below(x, unknown) || prec.Below(unknown, x) {
			t.Errorf("%s and ?", a)
		}
	}
}

// P7.1 (G1): sites do not matter, except for which one is kept.
func TestSites(t *testing.T) {
	sites := []int{0, 1, 2, 60, 61, math.MaxInt}
	for _, i := range sites {
		for _, j := range sites {
			a, b := api.Type{{Kind: api.Arrow}, {N: i}, {N: i}}, api.Type{{Kind: api.Arrow}, {N: j}, {Kind: api.Record, N: 1}, {Name: "a", N: j}}
			m, e := prec.Meet(a, b)
			want := api.Type{{Kind: api.Arrow}, {N: i}, {Kind: api.Record, N: 1}, {Name: "a", N: j}}
			if e != api.OK || !slices.Equal(m, want) || !prec.Agree(a, b) || !prec.Below(b, a) || prec.Below(a, b) {
				t.Errorf("%d %d: %v %d", i, j, m, e)
			}
		}
	}
}

// P7.1 (G2): what a function takes and what it returns.
func TestCall(t *testing.T) {
	for s, want := range map[string][2]string{
		"int -> bool": {"int", "bool"}, "int -> ? -> bool": {"int", "?8 -> bool"}, "(int -> ?) -> ?": {"int -> ?8", "?9"}, "? -> ?": {"?8", "?9"}, "{a: ?} -> [A: int]": {"{a: ?8}", "[A: int]"},
		"{a: int -> int, b: {}} -> {}": {"{a: int -> int, b: {}}", "{}"}, "((? -> ?) -> int) -> (? -> unit) -> string": {"(?8 -> ?9) -> int", "(?10 -> unit) -> string"},
		"?": {"?", "?"},
	} {
		a, b, e := prec.Call(read(t, s, 8))
		if e != api.OK || marked(a) != want[0] || marked(b) != want[1] || !ty.Right(a) || !ty.Right(b) {
			t.Errorf("%s: %s, %s %d", s, marked(a), marked(b), e)
		}
	}
	for _, s := range []string{"int", "bool", "string", "unit", "{}", "{a: int -> int}", "{a: ?, b: ?}", "[A: ?]", "[A: ? -> ? | B: int]"} {
		if a, b, e := prec.Call(read(t, s, 8)); e != api.ErrType || len(a) != 0 || len(b) != 0 {
			t.Errorf("%s: %v %v %d", s, a, b, e)
		}
	}
}

// P7.1 (G2): fields of records and of unions. There is none if want is empty.
func TestField(t *testing.T) {
	for _, c := range []struct{ t, label, want string }{
		{"{a: int}", "a", "int"}, {"{a: ?}", "a", "?8"}, {"{a: int, b: {c: ?}}", "b", "{c: ?8}"}, {"{a: int, b: {c: ?}}", "a", "int"}, {"{c: ? -> int, b: [A: ?], a: {}}", "c", "?8 -> int"}, {"{c: ? -> int, b: [A: ?], a: {}}", "b", "[A: ?9]"}, {"{c: ? -> int, b: [A: ?], a: {}}", "a", "{}"},
		{"[A: int]", "A", "int"}, {"[A: int | B: ?]", "B", "?8"}, {"[A: [B: ? -> ?] | C: unit]", "A", "[B: ?8 -> ?9]"}, {"[A: {a: bool} | B: unit | C: {a: string}]", "C", "{a: string}"},
		{"{a: int, aa: bool}", "aa", "bool"}, {"{a: int, aa: bool}", "a", "int"},
		{"?", "a", "?"}, {"?", "A", "?"}, {"?", "", "?"}, {"?", "no label", "?"},
		{"{a: int}", "b", ""}, {"{a: int}", "", ""}, {"{a: int}", "A", ""}, {"{a: int}", "aa", ""}, {"{aa: int}", "a", ""}, {"{}", "a", ""}, {"{}", "", ""}, {"{a: {b: int}}", "b", ""}, {"{a: {b: int}, c: int}", "b", ""},
		{"[A: int]", "a", ""}, {"[A: int]", "B", ""}, {"[A: int]", "", ""}, {"[A: [B: int]]", "B", ""}, {"[A: {a: int}]", "a", ""},
		{"int", "a", ""}, {"int", "", ""}, {"bool", "", ""}, {"string", "", ""}, {"unit", "", ""}, {"int -> int", "", ""}, {"{a: int} -> {a: int}", "a", ""}, {"? -> ?", "a", ""},
	} {
		x, e := prec.Field(read(t, c.t, 8), c.label)
		if c.want == "" && (e != api.ErrType || len(x) != 0) || c.want != "" && (e != api.OK || marked(x) != c.want || !ty.Right(x)) {
			t.Errorf("%s, %q: %s %d, want %s", c.t, c.label, marked(x), e, c.want)
		}
	}
}

// P7.1 (G2): tags.
func TestTags(t *testing.T) {
	for s, want := range map[string]string{
		"[A: int]": "A", "[B: int | A: ?]": "A B", "[B: int -> int | A: [D: {} | C: {e: int}] | A_: unit | A0: {}]": "A A0 A_ B", "?": "",
	} {
		if l, e := prec.Tags(read(t, s, 8)); e != api.OK || strings.Join(l, " ") != want || len(l) != len(strings.Fields(want)) {
			t.Errorf("%s: %v %d", s, l, e)
		}
	}
	for _, s := range []string{"int", "bool", "string", "unit", "{}", "{a: [A: int]}", "? -> ?", "[A: int] -> [A: int]"} {
		if l, e := prec.Tags(read(t, s, 8)); e != api.ErrType || len(l) != 0 {
			t.Errorf("%s: %v %d", s, l, e)
		}
	}
}

// wide is a record or a union with n children.
func wide(kind, n int, prefix string, kid func(i int) api.Node) api.Type {
	l := api.Type{{Kind: kind, N: n}}
	for i := range n {
		x := kid(i)
		x.Name = prefix + strconv.Itoa(100+i)
		l = append(l, x)
	}
	return l
}

// P7.1: as many children as there may be.
func TestManyChildren(t *testing.T) {
	for kind, prefix := range map[int]string{api.Record: "a", api.Union: "A"} {
		for _, n := range []int{1, 2, 49, 50} {
			even := wide(kind, n, prefix, func(i int) api.Node { return api.Node{Kind: i % 2, N: (1 - i%2) * (i + 1)} }) // ? and int by turns
			odd := wide(kind, n, prefix, func(i int) api.Node { return api.Node{Kind: (i + 1) % 2, N: i % 2 * (i + 51)} })
			integers := wide(kind, n, prefix, func(int) api.Node { return api.Node{Kind: api.Int} })
			if !ty.Right(even) || !ty.Right(odd) || !ty.Right(integers) {
				t.Fatalf("%d: %d", kind, n)
			}
			if m, e := prec.Meet(even, odd); e != api.OK || !slices.Equal(m, integers) || !prec.Agree(odd, even) || !prec.Below(integers, even) || prec.Below(even, integers) {
				t.Errorf("%d, %d: %v %d", kind, n, m, e)
			}
			for i := range n {
				label := prefix + strconv.Itoa(100+i)
				other := slices.Clone(integers)
				other[i+1].Kind = api.Bool
				renamed := slices.Clone(even)
				renamed[i+1].Name += "x"
				x, e := prec.Field(other, label)
				if e != api.OK || !slices.Equal(x, api.Type{{Kind: api.Bool}}) || prec.Agree(other, integers) || prec.Agree(other, even) == (i%2 == 1) || prec.Agree(renamed, even) || prec.Below(renamed, odd) {
					t.Errorf("%d, %d: %d: %v %d", kind, n, i, x, e)
				}
			}
			l, e := prec.Tags(integers)
			if kind == api.Union && (e != api.OK || len(l) != n || !slices.IsSorted(l) || l[n-1] != integers[n].Name) {
				t.Errorf("%d: %v %d", n, l, e)
			}
		}
	}
}

// tower is a type in which each floor but the last one, top, has the next one as its last child, with this label.
func tower(depth int, label string, top api.Node, floor ...api.Node) api.Type {
	l := append(slices.Repeat(floor, depth-1), top)
	for i := len(floor); i < len(l); i += len(floor) {
		l[i].Name = label
	}
	return l
}

// towers are types of this depth, for each kind of node that has children.
func towers(depth int, top api.Node) []api.Type {
	return []api.Type{
		tower(depth, "", top, api.Node{Kind: api.Arrow}, api.Node{Kind: api.Unit}),
		tower(depth, "a", top, api.Node{Kind: api.Record, N: 1}),
		tower(depth, "b", top, api.Node{Kind: api.Record, N: 2}, api.Node{Kind: api.Bool, Name: "a"}),
		tower(depth, "A", top, api.Node{Kind: api.Union, N: 1}),
		slices.Concat(slices.Repeat(api.Type{{Kind: api.Arrow}}, depth-1), api.Type{top}, slices.Repeat(api.Type{{Kind: api.Int}}, depth-1)),
	}
}

// P7.1 (G1): deep types, also those that are deeper than valid ones may be.
func TestDeepTypes(t *testing.T) {
	for _, depth := range []int{2, 3, api.MaxDeep, api.MaxDeep + 1, 5000, 1 << 16} {
		unknowns, strs, ints := towers(depth, api.Node{N: 7}), towers(depth, api.Node{Kind: api.String}), towers(depth, api.Node{Kind: api.Int})
		for i := range unknowns {
			m, e := prec.Meet(unknowns[i], strs[i])
			if e != api.OK || !slices.Equal(m, strs[i]) || !prec.Below(strs[i], unknowns[i]) || prec.Below(unknowns[i], strs[i]) {
				t.Errorf("%d, %d deep: %d", i, depth, e)
			}
			if m, e := prec.Meet(strs[i], ints[i]); e != api.ErrType || len(m) != 0 || prec.Agree(strs[i], ints[i]) || prec.Below(strs[i], ints[i]) {
				t.Errorf("%d, %d deep: %d", i, depth, e)
			}
			for _, unknown := range []api.Type{{{}}, {{N: 9}}} {
				if m, e := prec.Meet(unknown, unknowns[i]); e != api.OK || !slices.Equal(m, unknowns[i]) || !prec.Below(unknowns[i], unknown) {
					t.Errorf("%d, %d deep: %d", i, depth, e)
				}
			}
		}
	}
}

// flat is a type of n nodes, n at least 1, that is not deep: an Arrow of two of half the size, or a record of one.
func flat(n int) api.Type {
	if n == 1 {
		return api.Type{{Kind: api.Int}}
	}
	if n%2 == 0 {
		l := slices.Concat(api.Type{{Kind: api.Record, N: 1}}, flat(n-1))
		l[1].Name = "a"
		return l
	}
	half := (n - 1) / 2
	return ty.Arrow(flat(half), flat(n-1-half))
}

// P7.1: large types, also those that have more nodes than valid ones may have. A meet may be larger than both of its types.
func TestLargeTypes(t *testing.T) {
	for _, n := range []int{100, api.MaxNodes - 2, 10 * api.MaxNodes} {
		large := flat(n)
		left, right, both := ty.Arrow(large, api.Type{{N: 1}}), ty.Arrow(api.Type{{N: 2}}, large), ty.Arrow(large, large)
		if ty.Right(left) != (n < api.MaxNodes) || len(large) != n {
			t.Fatalf("%d: %d", n, len(large))
		}
		m, e := prec.Meet(left, right)
		if e != api.OK || !slices.Equal(m, both) || !prec.Agree(right, left) || !prec.Below(m, left) || !prec.Below(m, right) || prec.Below(left, m) {
			t.Errorf("%d: %d nodes, %d", n, len(m), e)
		}
		for i, x := range large {
			if x.Kind == api.Int && (i < 100 || i > n-100) {
				wrong := slices.Clone(both)
				wrong[1+i].Kind = api.Bool
				if prec.Agree(wrong, both) || prec.Agree(wrong, left) || !prec.Agree(wrong, right) || prec.Below(wrong, left) || !prec.Below(wrong, right) {
					t.Errorf("%d: %d", n, i)
				}
			}
		}
		a, b, e := prec.Call(both)
		if e != api.OK || !slices.Equal(a, large) || !slices.Equal(b, large) {
			t.Errorf("%d: %d, %d nodes, %d", n, len(a), len(b), e)
		}
	}
}

// Arguments stay as they are, also beyond their lengths, and results are new.
func TestMemory(t *testing.T) {
	whole := slices.Concat(read(t, "[A: ? | B: int -> {a: ?}]", 1), read(t, "? -> {}", 5), read(t, "?", 9))
	before := slices.Clone(whole)
	union, arrow, unknown := whole[:6], whole[6:9], whole[9:10:10]
	results := func() []api.Type {
		var l []api.Type
		for _, p := range [][2]api.Type{{union, union}, {union, unknown}, {unknown, union}, {arrow, arrow}, {arrow, unknown}, {unknown, arrow}, {whole[9:10], unknown}} {
			m, _ := prec.Meet(p[0], p[1])
			l = append(l, m)
		}
		for _, x := range []api.Type{arrow, unknown} {
			a, b, _ := prec.Call(x)
			l = append(l, a, b)
		}
		for _, x := range []api.Type{union, unknown} {
			a, _ := prec.Field(x, "A")
			b, _ := prec.Field(x, "B")
			l = append(l, a, b)
		}
		return l
	}
	kept := results()
	var want []api.Type
	for _, r := range kept {
		want = append(want, slices.Clone(r))
	}
	for _, r := range results() {
		for i := range r[:cap(r)] {
			r[:cap(r)][i] = api.Node{Kind: api.Tail, Name: "q", N: 99}
		}
	}
	for _, x := range []api.Type{arrow, unknown} {
		a, b, _ := prec.Call(x)
		a[:cap(a)][0].N = 77
		if b[0].N == 77 {
			t.Errorf("%s: shared", marked(x))
		}
	}
	tags, _ := prec.Tags(union)
	tags[0], tags[1] = "Q", "R"
	prec.Agree(union, arrow)
	prec.Below(union, unknown)
	if !slices.Equal(whole, before) {
		t.Errorf("changed: %v", whole)
	}
	for i, r := range results() {
		if !slices.Equal(r, want[i]) || !slices.Equal(kept[i], want[i]) {
			t.Errorf("%d: %v, %v, want %v", i, r, kept[i], want[i])
		}
	}
	if tags, _ := prec.Tags(union); !slices.Equal(tags, []string{"A", "B"}) {
		t.Errorf("%v", tags)
	}
}

// Whatever is passed, calls end, and do not panic; nothing is consistent with what is not one type.
func TestAnyNodes(t *testing.T) {
	var nodes []api.Node
	for kind := -1; kind < 11; kind++ {
		for _, n := range []int{math.MinInt, 0, 2, math.MaxInt} {
			nodes = append(nodes, api.Node{Kind: kind, Name: "a", N: n})
		}
	}
	lists := []api.Type{nil}
	for _, a := range nodes {
		lists = append(lists, api.Type{a})
		for _, b := range nodes {
			lists = append(lists, api.Type{a, b}, api.Type{a, b, a})
		}
	}
	for i, a := range lists {
		prec.Call(a)
		prec.Field(a, "a")
		prec.Field(a, "")
		prec.Tags(a)
		for _, b := range []api.Type{nil, a, lists[i/2], lists[(i+1)/2], lists[len(lists)-1-i], {{Kind: api.Dyn}}, {{Kind: api.Dyn, Name: "a"}}} {
			_, e := prec.Meet(a, b)
			if prec.Agree(a, b) != (e == api.OK) || prec.Below(a, b) && e != api.OK || len(b) == 0 && e != api.ErrType {
				t.Fatalf("%v %v: %d", a, b, e)
			}
			prec.Meet(b, a)
		}
	}
	for _, a := range []api.Type{{{Kind: api.Int}}, {{Kind: api.Arrow}, {Kind: api.Int}, {Kind: api.Int}}, {{Kind: api.Dyn}}} {
		longer, shorter := slices.Concat(a, a), a[:len(a)-1]
		for _, b := range []api.Type{longer, shorter} {
			if prec.Agree(a, b) || prec.Agree(b, a) || prec.Below(a, b) || prec.Below(b, a) {
				t.Errorf("%v, %v", a, b)
			}
		}
	}
	if prec.Agree(nil, nil) || prec.Agree(nil, api.Type{{}}) || prec.Below(nil, nil) || prec.Below(nil, api.Type{{}}) {
		t.Error("no nodes")
	}
}
