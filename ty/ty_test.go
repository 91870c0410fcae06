package ty_test

import (
	"math"
	"slices"
	"strconv"
	"strings"
	"testing"

	"leaven/api"
	"leaven/ty"
)

// sample is a type that is built from its children, with what the chapter says of it.
type sample struct {
	t             api.Type
	text          string
	plain, static bool
	labels        []string // of the children of a record or a union, but not of its tail
	kids          []sample // the tail is among them
}

func leaf(kind, n int, text string) sample {
	return sample{t: api.Type{{Kind: kind, N: n}}, text: text, plain: kind != api.Var && kind != api.Tail, static: kind != api.Dyn}
}

// fill completes a sample from its first node, its children and its labels.
func fill(s sample) sample {
	s.plain, s.static = true, true
	for i, k := range s.kids {
		part := slices.Clone(k.t)
		if i < len(s.labels) {
			part[0].Name = s.labels[i]
		}
		s.t = append(s.t, part...)
		s.plain, s.static = s.plain && k.plain, s.static && k.static
	}
	return s
}

func arrow(a, b sample) sample {
	from := a.text
	if a.t[0].Kind == api.Arrow {
		from = "(" + from + ")"
	}
	return fill(sample{t: api.Type{{Kind: api.Arrow}}, text: from + " -> " + b.text, kids: []sample{a, b}})
}

// row is a record or a union; if there is a child more than labels, this one is a tail.
func row(kind int, labels []string, kids ...sample) sample {
	var parts []string
	for i, k := range kids {
		if i < len(labels) {
			parts = append(parts, labels[i]+": "+k.text)
		} else {
			parts = append(parts, k.text)
		}
	}
	text := "{" + strings.Join(parts, ", ") + "}"
	if kind == api.Union {
		text = "[" + strings.Join(parts, " | ") + "]"
	}
	return fill(sample{t: api.Type{{Kind: kind, N: len(kids)}}, text: text, labels: labels, kids: kids})
}

// grown are all types with these leaves and labels, by their numbers of nodes up to most.
func grown(most int, leaves, tails []sample, words, tags []string) [][]sample {
	bySize := make([][]sample, most+1)
	bySize[1] = append(bySize[1], leaves...)
	for n := 1; n <= most; n++ {
		for i := 1; i < n-1; i++ {
			for _, a := range bySize[i] {
				for _, b := range bySize[n-1-i] {
					bySize[n] = append(bySize[n], arrow(a, b))
				}
			}
		}
		for kind, labels := range map[int][]string{api.Record: words, api.Union: tags} {
			addRows(bySize, n, kind, labels, tails)
		}
	}
	return bySize
}

func addRows(bySize [][]sample, n, kind int, labels []string, tails []sample) {
	var add func(from, left int, used []string, kids []sample)
	add = func(from, left int, used []string, kids []sample) {
		if left == 0 && (kind == api.Record || len(kids) > 0) {
			bySize[n] = append(bySize[n], row(kind, slices.Clone(used), slices.Clone(kids)...))
		}
		for _, tail := range tails {
			if left == 1 {
				bySize[n] = append(bySize[n], row(kind, slices.Clone(used), append(slices.Clone(kids), tail)...))
			}
		}
		for i := from; i < len(labels); i++ {
			for size := 1; size <= left; size++ {
				for _, k := range bySize[size] {
					add(i+1, left-size, append(used, labels[i]), append(kids, k))
				}
			}
		}
	}
	add(0, n-1, nil, nil)
}

// samples are types of all kinds, with few nodes.
func samples() []sample {
	leaves := []sample{
		leaf(api.Dyn, 0, "?"), leaf(api.Dyn, 7, "?"), leaf(api.Int, 0, "int"), leaf(api.Bool, 0, "bool"),
		leaf(api.String, 0, "string"), leaf(api.Unit, 0, "unit"), leaf(api.Var, 0, "'0"), leaf(api.Var, 12, "'12"),
	}
	tails := []sample{leaf(api.Tail, 0, "..0"), leaf(api.Tail, 34, "..34")}
	l := slices.Concat(grown(4, leaves, tails, []string{"aB", "a_", "int"}, []string{"A", "A0", "B"})...)
	few := []sample{leaf(api.Dyn, 1, "?"), leaf(api.Int, 0, "int")}
	return append(l, slices.Concat(grown(6, few, nil, []string{"a", "b"}, []string{"A", "B"})...)...)
}

var (
	integer = api.Type{{Kind: api.Int}}
	unknown = api.Type{{Kind: api.Dyn, N: 3}}
)

// tower is a type in which each floor but the last one, top, has the next one as its last child, with this label.
func tower(depth int, label string, top api.Node, floor ...api.Node) api.Type {
	l := append(slices.Repeat(floor, depth-1), top)
	for i := len(floor); i < len(l); i += len(floor) {
		l[i].Name = label
	}
	return l
}

// towers are types of this depth (2 at least), for each kind of node that has children.
func towers(depth int) []api.Type {
	top := api.Node{Kind: api.Int}
	return []api.Type{
		tower(depth, "", top, api.Node{Kind: api.Arrow}, api.Node{Kind: api.Unit}),
		tower(depth, "a", top, api.Node{Kind: api.Record, N: 1}),
		tower(depth, "b", top, api.Node{Kind: api.Record, N: 2}, api.Node{Kind: api.Bool, Name: "a"}),
		tower(depth, "A", top, api.Node{Kind: api.Union, N: 1}),
		append(tower(depth-1, "a", api.Node{Kind: api.Record, N: 1}, api.Node{Kind: api.Record, N: 1}), api.Node{Kind: api.Tail, N: 5}),
		slices.Concat(slices.Repeat(api.Type{{Kind: api.Arrow}}, depth-1), slices.Repeat(integer, depth)),
	}
}

// flat is a type of n nodes that is not deep.
func flat(n int) api.Type {
	if n == 1 {
		return integer
	}
	if n%2 == 0 {
		return row(api.Record, []string{"a"}, sample{t: flat(n - 1)}).t
	}
	half := (n - 1) / 2
	return ty.Arrow(flat(half), flat(n-1-half))
}

// P3.1 (C1): types of all kinds are valid.
func TestRight(t *testing.T) {
	for _, s := range samples() {
		if !ty.Right(s.t) || ty.Plain(s.t) != s.plain || ty.Static(s.t) != s.static {
			t.Fatalf("%s: %v %v %v", s.text, ty.Right(s.t), ty.Plain(s.t), ty.Static(s.t))
		}
	}
}

// P3.1 (C1): what one node alone may be.
func TestRightOfOneNode(t *testing.T) {
	for kind := -2; kind < 13; kind++ {
		for _, n := range []int{math.MinInt, -2, -1, 0, 1, 2, 49, 50, 51, 1000, math.MaxInt} {
			for _, name := range []string{"", "a", "A", "?"} {
				want := n == 0 && kind >= api.Dyn && kind <= api.Unit || n >= 0 && (kind == api.Dyn || kind == api.Var) || n == 0 && kind == api.Record
				if got := ty.Right(api.Type{{Kind: kind, Name: name, N: n}}); got != (want && name == "") {
					t.Errorf("%d %q %d: %v", kind, name, n, got)
				}
			}
		}
	}
}

// P3.1 (C1): of all short sequences, those that can be built are valid, and no others.
func TestRightOfAllShortTypes(t *testing.T) {
	var nodes []api.Node
	for _, name := range []string{"", "a", "b", "A"} {
		for _, n := range []api.Node{
			{Kind: api.Int}, {Kind: api.Int, N: 1}, {Kind: api.Arrow}, {Kind: api.Record}, {Kind: api.Record, N: 1}, {Kind: api.Record, N: 2}, {Kind: api.Record, N: 3},
			{Kind: api.Union}, {Kind: api.Union, N: 1}, {Kind: api.Union, N: 2}, {Kind: api.Tail},
		} {
			nodes = append(nodes, api.Node{Kind: n.Kind, Name: name, N: n.N})
		}
	}
	const most = 4
	type key [most]api.Node
	keyOf := func(l api.Type) (k key) {
		for i := range k {
			k[i].Kind = -1
		}
		copy(k[:], l)
		return k
	}
	valid := map[key]bool{}
	for _, s := range slices.Concat(grown(most, []sample{leaf(api.Int, 0, "")}, []sample{leaf(api.Tail, 0, "")}, []string{"a", "b"}, []string{"A"})...) {
		valid[keyOf(s.t)] = true
	}
	found := 0
	var grow func(l api.Type)
	grow = func(l api.Type) {
		right := ty.Right(l)
		if right != valid[keyOf(l)] {
			t.Fatalf("%v: %v", l, right)
		}
		if right {
			found++
		}
		for _, n := range nodes {
			if len(l) < most {
				grow(append(l, n))
			}
		}
	}
	grow(make(api.Type, 0, most))
	if found != len(valid) || found < 200 {
		t.Errorf("%d of %d", found, len(valid))
	}
}

// P3.1 (C1): labels.
func TestRightOfLabels(t *testing.T) {
	with := func(kind int, labels ...string) api.Type {
		l := api.Type{{Kind: kind, N: len(labels)}}
		for _, s := range labels {
			l = append(l, api.Node{Kind: api.Bool, Name: s})
		}
		return l
	}
	for _, c := range []struct {
		kind   int
		labels []string
		want   bool
	}{
		{api.Record, []string{"a", "b"}, true}, {api.Record, []string{"b", "a"}, false}, {api.Record, []string{"a", "a"}, false},
		{api.Record, []string{"aB", "a_", "aa", "b"}, true}, {api.Record, []string{"aa", "aB"}, false}, {api.Record, []string{"a_", "aB"}, false},
		{api.Record, []string{"a", "a0", "aA"}, true}, {api.Record, []string{"a10", "a2"}, true}, {api.Record, []string{"a2", "a10"}, false},
		{api.Record, []string{"a", "b", "a"}, false}, {api.Record, []string{"a", "c", "b"}, false}, {api.Record, []string{"int", "let"}, true},
		{api.Record, []string{"A"}, false}, {api.Record, []string{""}, false}, {api.Record, []string{"", "a"}, false}, {api.Record, []string{"a", "_b"}, false},
		{api.Record, []string{"a b"}, false}, {api.Record, []string{"1"}, false}, {api.Record, []string{"é"}, false}, {api.Record, []string{"a!b"}, false}, {api.Record, []string{"a\xff"}, false},
		{api.Union, []string{"A", "B"}, true}, {api.Union, []string{"B", "A"}, false}, {api.Union, []string{"A", "A"}, false},
		{api.Union, []string{"A_", "Aa", "B"}, true}, {api.Union, []string{"a"}, false}, {api.Union, []string{"A", "b"}, false}, {api.Union, []string{""}, false}, {api.Union, []string{"É"}, false},
	} {
		if got := ty.Right(with(c.kind, c.labels...)); got != c.want {
			t.Errorf("%d %q: %v", c.kind, c.labels, got)
		}
	}
}

// P3.1 (C1): a tail stands at the end of a record or a union only, and is counted.
func TestRightOfTails(t *testing.T) {
	tail := api.Node{Kind: api.Tail, N: 2}
	a := api.Node{Kind: api.Int, Name: "a"}
	for i, c := range []struct {
		l    api.Type
		want bool
	}{
		{api.Type{{Kind: api.Record, N: 1}, tail}, true},
		{api.Type{{Kind: api.Union, N: 1}, tail}, true},
		{api.Type{{Kind: api.Record, N: 2}, a, tail}, true},
		{api.Type{{Kind: api.Union, N: 2}, {Kind: api.Int, Name: "A"}, tail}, true},
		{api.Type{{Kind: api.Record, N: 1}, a, tail}, false},
		{api.Type{{Kind: api.Record}, tail}, false},
		{api.Type{{Kind: api.Union}, tail}, false},
		{api.Type{{Kind: api.Record, N: 2}, tail, a}, false},
		{api.Type{{Kind: api.Record, N: 2}, tail, tail}, false},
		{api.Type{{Kind: api.Record, N: 3}, a, tail, {Kind: api.Int, Name: "b"}}, false},
		{api.Type{{Kind: api.Record, N: 2}, a, {Kind: api.Tail, Name: "b"}}, false},
		{api.Type{{Kind: api.Record, N: 1}, {Kind: api.Tail, Name: "a"}}, false},
		{api.Type{{Kind: api.Union, N: 1}, {Kind: api.Tail, Name: "A"}}, false},
		{api.Type{{Kind: api.Record, N: 1}, {Kind: api.Tail, N: -1}}, false},
		{api.Type{{Kind: api.Arrow}, {Kind: api.Int}, tail}, false},
		{api.Type{{Kind: api.Arrow}, tail, {Kind: api.Int}}, false},
		{api.Type{tail}, false},
	} {
		if got := ty.Right(c.l); got != c.want {
			t.Errorf("%d: %v: %v", i, c.l, got)
		}
	}
}

func numbered(prefix string, n int) []string {
	l := make([]string, n)
	for i := range l {
		l[i] = prefix + strconv.Itoa(100+i)
	}
	return l
}

// P3.1 (C1): the limits.
func TestRightAtTheLimits(t *testing.T) {
	for _, n := range []int{api.MaxNodes - 1, api.MaxNodes} {
		if l := flat(n); len(l) != n || !ty.Right(l) {
			t.Errorf("%d of %d nodes", len(l), n)
		}
	}
	for _, n := range []int{api.MaxNodes + 1, api.MaxNodes + 2, 10 * api.MaxNodes} {
		if l := flat(n); len(l) != n || ty.Right(l) {
			t.Errorf("%d of %d nodes", len(l), n)
		}
	}
	for i := range towers(2) {
		for _, depth := range []int{2, 3, api.MaxDeep - 1, api.MaxDeep} {
			if l := towers(depth)[i]; !ty.Right(l) {
				t.Errorf("%d, %d deep: %s", i, depth, ty.Print(l))
			}
		}
		for _, depth := range []int{api.MaxDeep + 1, api.MaxDeep + 2, 1 << 12, 1 << 16} {
			if ty.Right(towers(depth)[i]) {
				t.Errorf("%d, %d deep", i, depth)
			}
		}
	}
	for kind, prefix := range map[int]string{api.Record: "a", api.Union: "A"} {
		for _, n := range []int{1, 49, 50, 51} {
			l := api.Type{{Kind: kind, N: n}}
			for _, s := range numbered(prefix, n) {
				l = append(l, api.Node{Kind: api.Unit, Name: s})
			}
			if ty.Right(l) != (n <= 50) {
				t.Errorf("%d: %d children", kind, n)
			}
			l[n] = api.Node{Kind: api.Tail}
			if ty.Right(l) != (n <= 50) {
				t.Errorf("%d: %d children with a tail", kind, n)
			}
		}
	}
}

// P3.1 (C1): Plain and Static accept all sequences of nodes.
func TestPlainAndStatic(t *testing.T) {
	for i, c := range []struct {
		l             api.Type
		plain, static bool
	}{
		{nil, true, true}, {api.Type{}, true, true}, {api.Type{{}}, true, false}, {api.Type{{N: 9}}, true, false}, {integer, true, true},
		{api.Type{{Kind: api.Var}}, false, true}, {api.Type{{Kind: api.Tail}}, false, true}, {api.Type{{Kind: api.Tail}, {}}, false, false},
		{api.Type{{Kind: api.Int}, {Kind: api.Int}, {Kind: api.Var, N: -1}}, false, true}, {api.Type{{Kind: api.Int}, {Kind: api.Dyn, Name: "x"}}, true, false},
		{api.Type{{Kind: 10}, {Kind: -1}, {Kind: api.Union}, {Kind: api.Arrow}}, true, true},
	} {
		if ty.Plain(c.l) != c.plain || ty.Static(c.l) != c.static {
			t.Errorf("%d: %v %v", i, ty.Plain(c.l), ty.Static(c.l))
		}
	}
}

// P3.1 (C1): sites do not count, and everything else does.
func TestSame(t *testing.T) {
	rec := func(label string, kid api.Node) api.Type {
		kid.Name = label
		return api.Type{{Kind: api.Record, N: 1}, kid}
	}
	l := []api.Type{
		integer, {{Kind: api.Bool}}, {{Kind: api.Dyn}}, {{Kind: api.Var}}, {{Kind: api.Var, N: 1}}, {{Kind: api.Record}},
		rec("a", api.Node{}), rec("b", api.Node{}), rec("", api.Node{Kind: api.Tail}), rec("", api.Node{Kind: api.Tail, N: 1}),
		{{Kind: api.Union, N: 1}, {Kind: api.Dyn, Name: "A"}}, {{Kind: api.Union, N: 1}, {Kind: api.Tail}},
		{{Kind: api.Record, N: 2}, {Kind: api.Dyn, Name: "a"}, {Kind: api.Dyn, Name: "b"}},
		ty.Arrow(integer, unknown), ty.Arrow(unknown, integer), ty.Arrow(unknown, unknown),
	}
	for i, a := range l {
		for j, b := range l {
			for site := range 3 {
				other := slices.Clone(b)
				for k := range other {
					if other[k].Kind == api.Dyn {
						other[k].N = site + k
					}
				}
				if ty.Same(a, other) != (i == j) || ty.Same(other, a) != (i == j) {
					t.Errorf("%v %v", a, other)
				}
			}
		}
	}
}

// P3.1 (C2): the printed form.
func TestPrint(t *testing.T) {
	for _, s := range samples() {
		if got := ty.Print(s.t); got != s.text {
			t.Fatalf("%s, want %s", got, s.text)
		}
	}
	i, b := leaf(api.Int, 0, "int"), leaf(api.Bool, 0, "bool")
	for _, c := range []struct {
		s    sample
		want string
	}{
		{arrow(i, arrow(b, leaf(api.Dyn, 1, "?"))), "int -> bool -> ?"},
		{arrow(arrow(i, b), i), "(int -> bool) -> int"},
		{arrow(arrow(arrow(i, b), i), arrow(i, b)), "((int -> bool) -> int) -> int -> bool"},
		{arrow(arrow(i, arrow(b, i)), i), "(int -> bool -> int) -> int"},
		{row(api.Record, nil), "{}"},
		{row(api.Record, []string{"f", "g"}, arrow(arrow(i, i), b), row(api.Record, nil)), "{f: (int -> int) -> bool, g: {}}"},
		{row(api.Union, []string{"A", "B"}, arrow(i, b), row(api.Union, []string{"C"}, b)), "[A: int -> bool | B: [C: bool]]"},
		{arrow(row(api.Record, []string{"a"}, arrow(i, i)), i), "{a: int -> int} -> int"},
		{row(api.Record, []string{"a"}, i, leaf(api.Tail, 0, "..0")), "{a: int, ..0}"},
		{row(api.Union, []string{"A"}, i, leaf(api.Tail, math.MaxInt, "..9223372036854775807")), "[A: int | ..9223372036854775807]"},
		{row(api.Union, nil, leaf(api.Tail, 10, "..10")), "[..10]"},
		{row(api.Record, nil, leaf(api.Tail, 10, "..10")), "{..10}"},
		{leaf(api.Var, math.MaxInt, "'9223372036854775807"), "'9223372036854775807"},
	} {
		if got := ty.Print(c.s.t); got != c.want {
			t.Errorf("%s, want %s", got, c.want)
		}
	}
}

func TestPrintOfDeepTypes(t *testing.T) {
	for _, depth := range []int{2, api.MaxDeep, 1 << 12} {
		n := depth - 1
		for i, want := range []string{
			strings.Repeat("unit -> ", n) + "int",
			strings.Repeat("{a: ", n) + "int" + strings.Repeat("}", n),
			strings.Repeat("{a: bool, b: ", n) + "int" + strings.Repeat("}", n),
			strings.Repeat("[A: ", n) + "int" + strings.Repeat("]", n),
			strings.Repeat("{a: ", n-1) + "{..5" + strings.Repeat("}", n),
			strings.Repeat("(", n-1) + "int" + strings.Repeat(" -> int)", n-1) + " -> int",
		} {
			if got := ty.Print(towers(depth)[i]); got != want {
				t.Errorf("%d, %d deep: %s", i, depth, got)
			}
		}
	}
}

// P3.1 (C2): where trees end, what their children are, and what stands at a node.
func TestNodes(t *testing.T) {
	for _, s := range samples() {
		checkNodes(t, s)
	}
}

func checkNodes(t *testing.T, s sample) {
	t.Helper()
	kids := ty.Kids(s.t, 0)
	if len(kids) != len(s.kids) || ty.End(s.t, 0) != len(s.t) || !slices.Equal(ty.Part(s.t, 0), s.t) {
		t.Fatalf("%s: %v, %d", s.text, kids, ty.End(s.t, 0))
	}
	at := 1
	for i, k := range s.kids {
		if kids[i] != at || !slices.Equal(ty.Part(s.t, at), k.t) {
			t.Fatalf("%s: %v, %v", s.text, kids, ty.Part(s.t, kids[i]))
		}
		for j := range k.t {
			var inner []int
			for _, x := range ty.Kids(k.t, j) {
				inner = append(inner, at+x)
			}
			if ty.End(s.t, at+j) != at+ty.End(k.t, j) || !slices.Equal(ty.Kids(s.t, at+j), inner) || !slices.Equal(ty.Part(s.t, at+j), ty.Part(k.t, j)) {
				t.Fatalf("%s: %d", s.text, at+j)
			}
		}
		at += len(k.t)
	}
}

func TestNodesThatAreNone(t *testing.T) {
	for _, l := range []api.Type{nil, {}, integer, ty.Arrow(integer, unknown), {{Kind: api.Record}}} {
		for _, i := range []int{math.MinInt, -2, -1, len(l), len(l) + 1, math.MaxInt} {
			if ty.End(l, i) != -1 || len(ty.Kids(l, i)) != 0 || len(ty.Part(l, i)) != 0 {
				t.Errorf("%v %d: %d %v %v", l, i, ty.End(l, i), ty.Kids(l, i), ty.Part(l, i))
			}
		}
	}
}

func TestNodesOfLargeTypes(t *testing.T) {
	for _, l := range append(towers(api.MaxDeep), flat(api.MaxNodes), flat(api.MaxNodes-1)) {
		for i := range l {
			to := i + 1
			for _, k := range ty.Kids(l, i) {
				if k != to {
					t.Fatalf("%d: %v", i, ty.Kids(l, i))
				}
				to = ty.End(l, k)
			}
			if ty.End(l, i) != to {
				t.Fatalf("%d: %d, want %d", i, ty.End(l, i), to)
			}
			if p := ty.Part(l, i); len(p) != to-i || ty.Right(p) == (l[i].Kind == api.Tail) || p[0].Name != "" {
				t.Fatalf("%d: %v", i, p)
			}
		}
	}
}

// P3.1 (C3): functions.
func TestArrow(t *testing.T) {
	for _, a := range []sample{leaf(api.Int, 0, "int"), leaf(api.Dyn, 4, "?"), row(api.Record, []string{"a"}, leaf(api.Var, 2, "'2"))} {
		for _, b := range []sample{leaf(api.Unit, 0, "unit"), arrow(leaf(api.Dyn, 5, "?"), a)} {
			if got := ty.Arrow(a.t, b.t); !slices.Equal(got, arrow(a, b).t) {
				t.Errorf("%s and %s: %v", a.text, b.text, got)
			}
		}
	}
}

// P3.1 (C3): records and unions are sorted by label.
func TestRow(t *testing.T) {
	i, d, f := leaf(api.Int, 0, "int"), leaf(api.Dyn, 8, "?"), arrow(leaf(api.Dyn, 9, "?"), leaf(api.Unit, 0, "unit"))
	for _, c := range []struct {
		kind   int
		labels []string
		kids   []sample
		want   string
	}{
		{api.Record, nil, nil, "{}"},
		{api.Record, []string{"a"}, []sample{f}, "{a: ? -> unit}"},
		{api.Record, []string{"c", "a", "b"}, []sample{i, d, f}, "{a: ?, b: ? -> unit, c: int}"},
		{api.Record, []string{"aa", "a_", "aB", "a2", "a10", "a"}, []sample{i, d, f, f, d, i}, "{a: int, a10: ?, a2: ? -> unit, aB: ? -> unit, a_: ?, aa: int}"},
		{api.Union, []string{"A"}, []sample{d}, "[A: ?]"},
		{api.Union, []string{"Ba", "B", "A"}, []sample{f, i, d}, "[A: ? | B: int | Ba: ? -> unit]"},
		{api.Record, []string{"r", "q"}, []sample{row(api.Record, []string{"z"}, i), row(api.Union, nil, leaf(api.Tail, 1, "..1"))}, "{q: [..1], r: {z: int}}"},
	} {
		var l []api.Type
		for _, k := range c.kids {
			l = append(l, k.t)
		}
		got, e := ty.Row(c.kind, c.labels, l)
		if e != api.OK || ty.Print(got) != c.want || !ty.Right(got) {
			t.Errorf("%s, want %s: %d", ty.Print(got), c.want, e)
		}
		for _, k := range ty.Kids(got, 0) { // sites stay with the labels they came with
			if j := slices.Index(c.labels, got[k].Name); !slices.Equal(ty.Part(got, k), l[j]) {
				t.Errorf("%s: %v", c.want, ty.Part(got, k))
			}
		}
	}
}

func TestRowOfManyChildren(t *testing.T) {
	for kind, prefix := range map[int]string{api.Record: "a", api.Union: "A"} {
		for n := 1; n < 53; n++ {
			labels := numbered(prefix, n)
			slices.Reverse(labels)
			got, e := ty.Row(kind, labels, slices.Repeat([]api.Type{unknown}, n))
			if n > 50 && (len(got) != 0 || e != api.ErrArg) || n <= 50 && (e != api.OK || !ty.Right(got) || len(ty.Kids(got, 0)) != n) {
				t.Errorf("%d children: %v %d", n, got, e)
			}
		}
	}
	large := flat(api.MaxNodes)
	if got, e := ty.Row(api.Record, []string{"b", "a"}, []api.Type{large, large}); e != api.OK || len(got) != 2*api.MaxNodes+1 {
		t.Errorf("%d: %d", len(got), e)
	}
}

func TestRowRefuses(t *testing.T) {
	for i, c := range []struct {
		kind   int
		labels []string
		n      int
		want   api.Errno
	}{
		{api.Dyn, nil, 0, api.ErrArg}, {api.Arrow, nil, 0, api.ErrArg}, {api.Tail, nil, 0, api.ErrArg}, {api.Var, nil, 0, api.ErrArg}, {-1, nil, 0, api.ErrArg}, {10, nil, 0, api.ErrArg},
		{api.Arrow, []string{"a", "b"}, 2, api.ErrArg}, {api.Int, []string{"a"}, 1, api.ErrArg}, {api.Tail, []string{"A"}, 1, api.ErrArg},
		{api.Record, []string{"a"}, 0, api.ErrArg}, {api.Record, nil, 1, api.ErrArg}, {api.Record, []string{"a", "b"}, 1, api.ErrArg}, {api.Record, []string{"a"}, 2, api.ErrArg},
		{api.Union, nil, 0, api.ErrArg}, {api.Union, nil, 1, api.ErrArg}, {api.Union, []string{"A"}, 0, api.ErrArg},
		{api.Record, []string{"A"}, 1, api.ErrArg}, {api.Record, []string{""}, 1, api.ErrArg}, {api.Record, []string{"a", "1"}, 2, api.ErrArg}, {api.Record, []string{"a", "_b"}, 2, api.ErrArg}, {api.Record, []string{"a!b"}, 1, api.ErrArg},
		{api.Union, []string{"a"}, 1, api.ErrArg}, {api.Union, []string{"A", "b"}, 2, api.ErrArg}, {api.Union, []string{"A "}, 1, api.ErrArg}, {api.Union, []string{"\xff"}, 1, api.ErrArg},
		{api.Record, []string{"a", "a"}, 2, api.ErrExists}, {api.Record, []string{"b", "a", "c", "b"}, 4, api.ErrExists}, {api.Union, []string{"B", "A", "B"}, 3, api.ErrExists},
		{api.Record, []string{"a", "a", "A"}, 3, api.ErrArg}, {api.Union, []string{"A", "A", ""}, 3, api.ErrArg}, {api.Record, []string{"a", "a"}, 3, api.ErrArg}, {api.Arrow, []string{"a", "a"}, 2, api.ErrArg},
		{api.Record, slices.Repeat([]string{"a"}, 50), 50, api.ErrExists}, {api.Record, slices.Repeat([]string{"a"}, 51), 51, api.ErrArg}, {api.Union, slices.Repeat([]string{"A"}, 51), 51, api.ErrArg},
		{api.Record, numbered("a", 51), 50, api.ErrArg}, {api.Record, numbered("a", 50), 51, api.ErrArg},
	} {
		if got, e := ty.Row(c.kind, c.labels, slices.Repeat([]api.Type{integer}, c.n)); e != c.want || len(got) != 0 {
			t.Errorf("%d: %v %d, want %d", i, got, e, c.want)
		}
	}
}

// P3.2: the printed form tells all plain types apart, up to sites.
func TestPrintedFormsAreUnique(t *testing.T) {
	seen := map[string]api.Type{}
	var all []api.Type // one of each printed form
	for _, s := range samples() {
		if !s.plain {
			continue
		}
		text := ty.Print(s.t)
		if other, ok := seen[text]; !ok {
			seen[text] = s.t
			all = append(all, s.t)
		} else if !ty.Same(s.t, other) {
			t.Fatalf("%s: %v and %v", text, s.t, other)
		}
	}
	for i, a := range all[:300] {
		for j, b := range all {
			if ty.Same(a, b) != (i == j) {
				t.Fatalf("%s and %s", ty.Print(a), ty.Print(b))
			}
		}
	}
}

// rebuilt is t, reassembled from what stands at its nodes.
func rebuilt(t *testing.T, l api.Type) api.Type {
	t.Helper()
	var labels []string
	var parts []api.Type
	for _, k := range ty.Kids(l, 0) {
		labels, parts = append(labels, l[k].Name), append(parts, rebuilt(t, ty.Part(l, k)))
	}
	switch l[0].Kind {
	case api.Arrow:
		return ty.Arrow(parts[0], parts[1])
	case api.Record, api.Union:
		return rebuiltRow(t, l[0].Kind, labels, parts)
	}
	return l
}

func rebuiltRow(t *testing.T, kind int, labels []string, parts []api.Type) api.Type {
	t.Helper()
	var tail api.Type
	if last := len(parts) - 1; last >= 0 && parts[last][0].Kind == api.Tail {
		labels, parts, tail = labels[:last], parts[:last], parts[last]
	}
	if len(parts) == 0 && len(tail) > 0 {
		return append(api.Type{{Kind: kind, N: 1}}, tail...)
	}
	slices.Reverse(labels) // the order of what is passed must not matter
	slices.Reverse(parts)
	r, e := ty.Row(kind, labels, parts)
	if e != api.OK {
		t.Fatalf("%q: %d", labels, e)
	}
	r[0].N += len(tail)
	return append(r, tail...)
}

// P3.3: a type that is reassembled from its children is the same type.
func TestParts(t *testing.T) {
	for _, s := range samples() {
		if got := rebuilt(t, s.t); !slices.Equal(got, s.t) {
			t.Fatalf("%s: %s", s.text, ty.Print(got))
		}
	}
	for _, l := range append(towers(api.MaxDeep), flat(api.MaxNodes)) {
		if got := rebuilt(t, l); !slices.Equal(got, l) {
			t.Fatalf("%s: %s", ty.Print(l), ty.Print(got))
		}
	}
}

// Arguments stay as they are, also beyond their lengths, and results are new.
func TestMemory(t *testing.T) {
	whole := api.Type{{Kind: api.Record, N: 1}, {Kind: api.Arrow, Name: "a"}, {Kind: api.Int}, {N: 6}, {Kind: api.Unit, Name: "z"}, {Kind: api.Bool}}
	before := slices.Clone(whole)
	l := whole[:4]
	labels, types := []string{"c", "b", "a"}, []api.Type{l, whole[5:], l[2:3]}
	results := func() []api.Type {
		r, _ := ty.Row(api.Record, labels, types)
		return []api.Type{ty.Arrow(l, l), ty.Arrow(l[2:3], whole[5:]), ty.Part(l, 0), ty.Part(l, 1), ty.Part(l, 2), r}
	}
	want := results()
	for _, r := range results() {
		r = append(r, api.Node{Kind: api.Var})
		for i := range r {
			r[i] = api.Node{Kind: api.Tail, Name: "q", N: 99}
		}
	}
	kids := ty.Kids(l, 0)
	kids[0] = 77
	ty.Print(l)
	if !slices.Equal(whole, before) || !slices.Equal(labels, []string{"c", "b", "a"}) || len(types[0]) != 4 || types[2][0].Kind != api.Int {
		t.Errorf("changed: %v %v", whole, labels)
	}
	for i, r := range results() {
		if !slices.Equal(r, want[i]) {
			t.Errorf("%d: %v, want %v", i, r, want[i])
		}
	}
	if !slices.Equal(ty.Kids(l, 0), []int{1}) {
		t.Errorf("%v", ty.Kids(l, 0))
	}
}

// Whatever is passed, calls end, and do not panic.
func TestAnyNodes(t *testing.T) {
	var nodes []api.Node
	for kind := -1; kind < 11; kind++ {
		for _, n := range []int{math.MinInt, -1, 0, 2, math.MaxInt} {
			nodes = append(nodes, api.Node{Kind: kind, Name: "a", N: n})
		}
	}
	call := func(l api.Type) {
		ty.Right(l)
		ty.Print(l)
		ty.Row(api.Record, []string{"b", "a"}, []api.Type{l, nil})
		ty.Same(ty.Arrow(l, nil), l)
		for i := -1; i <= len(l); i++ {
			if end := ty.End(l, i); end > len(l) || end <= i && end != -1 {
				t.Fatalf("%v %d: %d", l, i, end)
			}
			ty.Kids(l, i)
			ty.Part(l, i)
		}
	}
	call(nil)
	for _, a := range nodes {
		call(api.Type{a})
		for _, b := range nodes {
			call(api.Type{a, b})
			for _, c := range nodes {
				call(api.Type{a, b, c})
			}
		}
	}
	for _, l := range towers(1 << 16) {
		ty.Print(l)
		ty.Print(l[:1<<15])
		ty.Kids(l, 0)
		ty.Part(l, 1)
	}
}
