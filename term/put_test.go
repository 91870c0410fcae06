package term_test

import (
	"fmt"
	"math"
	"runtime"
	"slices"
	"testing"

	"leaven/api"
	"leaven/term"
	"leaven/ty"
)

// P12.1 (L2): substitutions.
func TestPut(t *testing.T) {
	for _, c := range []struct {
		t    string
		n    int
		u    string
		want string
	}{
		{"{a: int, ..5}", 5, "{b: '1}", "{a: int, b: '1}"}, // the chapter's example
		{"'5", 5, "int", "int"}, {"'5", 4, "int", "'5"}, {"int", 5, "bool", "int"}, {"?", 0, "int", "?"}, {"'0", 0, "?", "?"}, {"'5", 5, "'6", "'6"}, {"'5", 5, "'5", "'5"},
		{"'5 -> '4 -> '5", 5, "int -> bool", "(int -> bool) -> '4 -> int -> bool"}, {"'5 -> int", 5, "'5 -> '5", "('5 -> '5) -> int"},
		{"{a: '1, b: {c: '1}}", 1, "[A: int]", "{a: [A: int], b: {c: [A: int]}}"}, {"[A: '1 | B: '2]", 1, "{a: '2, ..1}", "[A: {a: '2, ..1} | B: '2]"},
		{"{..5}", 5, "{}", "{}"}, {"{..5}", 5, "{..5}", "{..5}"}, {"{..5}", 5, "{..6}", "{..6}"}, {"{..5}", 5, "{a: int, ..5}", "{a: int, ..5}"}, {"{a: int, ..5}", 5, "{}", "{a: int}"},
		{"[..5]", 5, "[A: int]", "[A: int]"}, {"[B: bool | ..5]", 5, "[A: int | C: '5 | ..6]", "[A: int | B: bool | C: '5 | ..6]"}, {"[A: int | ..1]", 1, "[..2]", "[A: int | ..2]"},
		{"{b: int, d: bool, f: unit, ..5}", 5, "{a: '1, c: '2, e: '3, g: '4}", "{a: '1, b: int, c: '2, d: bool, e: '3, f: unit, g: '4}"},
		{"{c: int, d: bool, ..5}", 5, "{a: '1, b: '2}", "{a: '1, b: '2, c: int, d: bool}"}, {"{a: int, b: bool, ..5}", 5, "{c: '1, d: '2, ..0}", "{a: int, b: bool, c: '1, d: '2, ..0}"},
		{"{a_: int, aa: bool, ..5}", 5, "{a0: '2, aB: '1, ab: '3}", "{a0: '2, aB: '1, a_: int, aa: bool, ab: '3}"}, // bytewise
		{"{a: '5, ..5}", 5, "{b: int}", "{a: {b: int}, b: int}"}, {"{a: {..5}, c: {a: int, ..5}, ..5}", 5, "{b: '5, ..5}", "{a: {b: '5, ..5}, b: '5, c: {a: int, b: '5, ..5}, ..5}"},
		{"{b: '5 -> '5, ..3}", 3, "{a: '5, ..5}", "{a: '5, b: '5 -> '5, ..5}"}, {"{a: {x: int, ..1} -> [X: int | ..2], ..3}", 1, "{y: {z: int -> int}}", "{a: {x: int, y: {z: int -> int}} -> [X: int | ..2], ..3}"},
		{"{a: [..5]}", 5, "[A: {a: int} | B: [A: '1 -> '2]]", "{a: [A: {a: int} | B: [A: '1 -> '2]]}"},
		{"{..5}", 4, "int", "{..5}"}, {"{..5}", 4, "[..5]", "{..5}"}, {"'5", 5, "{a: int, ..5}", "{a: int, ..5}"},
	} {
		x, u, want := of(t, c.t), of(t, c.u), of(t, c.want)
		if !ty.Right(x) || !ty.Right(u) || !ty.Right(want) {
			t.Fatal(c.t)
		}
		if got, errno := term.Put(x, c.n, u); errno != api.OK || !slices.Equal(got, want) {
			t.Errorf("%s with %s for %d: %s and %d, want %s", c.t, c.u, c.n, ty.Print(got), errno, c.want)
		}
	}
}

// P12.1 (L2): sites and labels are kept.
func TestPutKeeps(t *testing.T) {
	x, u := sited(of(t, "? -> {a: '3, b: ?, ..4}")), sited(of(t, "? -> ?"))
	got, errno := term.Put(x, 3, u)
	want := api.Type{{Kind: api.Arrow}, {N: 1}, {Kind: api.Record, N: 3}, {Kind: api.Arrow, Name: "a"}, {N: 1}, {N: 2}, {Name: "b", N: 2}, {Kind: api.Tail, N: 4}}
	if errno != api.OK || !slices.Equal(got, want) {
		t.Errorf("%v and %d, want %v", got, errno, want)
	}
	got, errno = term.Put(x, 4, sited(of(t, "{aa: ?, c: ? -> ?}")))
	want = api.Type{{Kind: api.Arrow}, {N: 1}, {Kind: api.Record, N: 4}, {Kind: api.Var, Name: "a", N: 3}, {Name: "aa", N: 1}, {Name: "b", N: 2}, {Kind: api.Arrow, Name: "c"}, {N: 2}, {N: 3}}
	if errno != api.OK || !slices.Equal(got, want) {
		t.Errorf("%v and %d, want %v", got, errno, want)
	}
}

// P12.1 (L2): the errors, one by one.
func TestPutErrors(t *testing.T) {
	for _, c := range []struct {
		t    string
		n    int
		u    string
		want api.Errno
	}{
		{"{..5}", 5, "int", api.ErrArg}, {"{..5}", 5, "?", api.ErrArg}, {"{..5}", 5, "'6", api.ErrArg}, {"{..5}", 5, "'5", api.ErrArg}, {"{..5}", 5, "int -> int", api.ErrArg}, {"{..5}", 5, "[A: int]", api.ErrArg}, {"{..5}", 5, "[..6]", api.ErrArg},
		{"[..5]", 5, "unit", api.ErrArg}, {"[..5]", 5, "{}", api.ErrArg}, {"[A: int | ..5]", 5, "{a: int}", api.ErrArg}, {"[..5]", 5, "{..5}", api.ErrArg}, {"int -> {a: [A: bool | ..5]}", 5, "{..1}", api.ErrArg},
		{"{a: [..5], ..5}", 5, "{b: int}", api.ErrArg}, {"{a: [..5], ..5}", 5, "[B: int]", api.ErrArg}, {"{a: '5, ..5}", 5, "int", api.ErrArg}, {"{..5} -> [..5]", 5, "{}", api.ErrArg},
		{"{a: int, ..5}", 5, "{a: int}", api.ErrExists}, {"{a: int, ..5}", 5, "{a: bool, ..6}", api.ErrExists}, {"[A: int | C: int | ..5]", 5, "[B: int | C: int]", api.ErrExists}, {"{a: int, b: int, c: int, ..5}", 5, "{c: int}", api.ErrExists},
		{"{a: int, b: int, c: int, ..5}", 5, "{b: int, d: int}", api.ErrExists}, {"{x: {a: int, ..5}, ..5}", 5, "{a: int}", api.ErrExists}, {"{a: {..5}, ..5}", 5, "{a: int}", api.ErrExists}, {"{b: {a: int, ..4}, ..5}", 4, "{a: int}", api.ErrExists},
		{"{a: {a: int}, ..5}", 5, "{b: {b: {a: int}}}", api.OK}, {"{..5} -> {a: int, ..4}", 5, "{a: int}", api.OK}, {"[A: int] -> {..5}", 5, "{a: int}", api.OK},
		{"int", -1, "int", api.ErrArg}, {"'0", -1, "int", api.ErrArg}, {"{a: int, ..0}", -1, "{a: int}", api.ErrArg}, {"'5", math.MinInt, "'5", api.ErrArg}, // R7
		{"int", math.MaxInt, "int", api.OK}, {"'9223372036854775807", math.MaxInt, "int", api.OK},
	} {
		if got, errno := term.Put(of(t, c.t), c.n, of(t, c.u)); errno != c.want || errno != api.OK && len(got) != 0 {
			t.Errorf("%s with %s for %d: %v and %d, want %d", c.t, c.u, c.n, got, errno, c.want)
		}
	}
}

// many is a row of n children and, if it is not negative, a tail.
func many(kind, n, tail int) api.Type {
	label := "L%02d"
	if kind == api.Record {
		label = "l%02d"
	}
	x := api.Type{{Kind: kind, N: n}}
	for i := range n {
		x = append(x, api.Node{Kind: api.Int, Name: fmt.Sprintf(label, i)})
	}
	if tail >= 0 {
		x[0].N++
		x = append(x, api.Node{Kind: api.Tail, N: tail})
	}
	return x
}

// P12.1 (L2): a record or a union has at most 50 children, its tail among them.
func TestPutManyChildren(t *testing.T) {
	own := map[int]string{api.Record: "{a: int, b: bool, ..5}", api.Union: "[A: int | B: bool | ..5]"}
	for kind, text := range own {
		for n := 46; n <= 50; n++ {
			for _, tail := range []int{-1, 5, 6} {
				u := many(kind, n, tail)
				all := 2 + u[0].N
				if u[0].N > 50 {
					continue
				}
				got, errno := term.Put(of(t, text), 5, u)
				if all <= 50 && (errno != api.OK || got[0].N != all || !ty.Right(got) || len(got) != all+1) || all > 50 && (errno != api.ErrLarge || len(got) != 0) {
					t.Errorf("%s with %d children: %d", text, u[0].N, errno)
				}
				for _, around := range []string{"{x: '5}", "'5 -> int", "[X: '5]"} { // in place of a Var they are as many as before
					if got, errno := term.Put(of(t, around), 5, u); errno != api.OK || len(got) != len(of(t, around))+len(u)-1 {
						t.Errorf("%s with %d children: %d", around, u[0].N, errno)
					}
				}
			}
		}
	}
	for _, open := range []string{"{..5}", "int -> {a: {..5}}"} {
		x := of(t, open)
		if got, errno := term.Put(x, 5, many(api.Record, 50, -1)); errno != api.OK || len(got) != len(x)+49 {
			t.Errorf("%s: %d", open, errno)
		}
		if got, errno := term.Put(x, 5, many(api.Record, 49, 5)); errno != api.OK || len(got) != len(x)+49 {
			t.Errorf("%s: %d", open, errno)
		}
	}
}

// arrows is a type of depth n+1: n times an Arrow to last.
func arrows(n int, last ...api.Node) api.Type {
	return append(slices.Repeat(api.Type{{Kind: api.Arrow}, {Kind: api.Int}}, n), last...)
}

// P12.1 (L2): the result is at most as deep as a valid type.
func TestPutDeep(t *testing.T) {
	for n := range api.MaxDeep {
		for _, m := range []int{0, 1, api.MaxDeep - n - 2, api.MaxDeep - n - 1, api.MaxDeep - n, api.MaxDeep - n + 1, api.MaxDeep - 1} {
			if m < 0 || m >= api.MaxDeep {
				continue
			}
			x, u := arrows(n, api.Node{Kind: api.Var, N: 2}), arrows(m, api.Node{Kind: api.Int})
			got, errno := term.Put(x, 2, u)
			if want := arrows(n+m, api.Node{Kind: api.Int}); n+m < api.MaxDeep && (errno != api.OK || !slices.Equal(got, want)) || n+m >= api.MaxDeep && (errno != api.ErrDeep || len(got) != 0) {
				t.Fatalf("%d and %d: %d", n, m, errno)
			}
			row := ty.Part(u, 0)
			row[0].Name = "a"
			row = slices.Concat(api.Type{{Kind: api.Record, N: 1}}, row)
			if !ty.Right(row) || n == api.MaxDeep-1 {
				continue
			}
			got, errno = term.Put(arrows(n, api.Node{Kind: api.Record, N: 1}, api.Node{Kind: api.Tail, N: 2}), 2, row)
			if deep := n + len(row)/2; deep < api.MaxDeep && (errno != api.OK || !slices.Equal(got, slices.Concat(arrows(n), row))) || deep >= api.MaxDeep && (errno != api.ErrDeep || len(got) != 0) {
				t.Fatalf("%d and a row of %d: %d", n, m, errno)
			}
		}
	}
}

// bush is a type of n nodes that is not deep, with as many of the leaf as there are leaves. It is valid only if n is odd.
func bush(n int, leaf api.Node) api.Type {
	if n <= 2 {
		return api.Type{leaf}
	}
	half := (n - 1) / 2
	half -= 1 - half%2 // both halves are odd
	return slices.Concat(api.Type{{Kind: api.Arrow}}, bush(half, leaf), bush(n-1-half, leaf))
}

// P12.1 (L2): the result has at most as many nodes as a valid type.
func TestPutManyNodes(t *testing.T) {
	integer, two := api.Node{Kind: api.Int}, api.Node{Kind: api.Var, N: 2}
	for _, c := range []struct {
		t, u api.Type
		want int
	}{
		{ty.Arrow(api.Type{two}, bush(4999, integer)), bush(5001, integer), 10001},
		{ty.Arrow(api.Type{two}, bush(4999, integer)), bush(4999, integer), 9999},
		{slices.Concat(api.Type{{Kind: api.Record, N: 1}}, labelled(ty.Arrow(api.Type{two}, bush(4999, integer)), "a")), bush(4999, integer), 10000},
		{bush(3333, two), bush(5, integer), 1666 + 1667*5},
		{bush(3333, two), bush(7, integer), 1666 + 1667*7},
		{bush(9999, two), bush(3, integer), 4999 + 5000*3},
		{bush(9999, two), api.Type{integer}, 9999},
		{bush(9999, two), bush(9999, integer), 4999 + 5000*9999},
		{bush(9999, integer), bush(9999, integer), 9999},
		{ty.Arrow(api.Type{two}, bush(9997, api.Node{Kind: api.Var, N: 3})), of(t, "{a: int}"), 10000},
		{ty.Arrow(api.Type{two}, bush(9997, api.Node{Kind: api.Var, N: 3})), of(t, "int -> int"), 10001},
		{ty.Arrow(api.Type{{Kind: api.Record, N: 1}, {Kind: api.Tail, N: 2}}, bush(4999, integer)), slices.Concat(api.Type{{Kind: api.Record, N: 1}}, labelled(bush(4999, integer), "a")), 1 + 4999 + 5000},
		{slices.Concat(api.Type{{Kind: api.Record, N: 1}}, labelled(ty.Arrow(api.Type{{Kind: api.Record, N: 1}, {Kind: api.Tail, N: 2}}, bush(4997, integer)), "z")), slices.Concat(api.Type{{Kind: api.Record, N: 1}}, labelled(bush(5001, integer), "a")), 2 + 4997 + 5002},
		{slices.Concat(api.Type{{Kind: api.Record, N: 1}}, labelled(ty.Arrow(api.Type{{Kind: api.Record, N: 1}, {Kind: api.Tail, N: 2}}, bush(4997, integer)), "z")), slices.Concat(api.Type{{Kind: api.Record, N: 1}}, labelled(bush(4999, integer), "a")), 2 + 4997 + 5000},
	} {
		if !ty.Right(c.t) || !ty.Right(c.u) {
			t.Fatal("not valid")
		}
		got, errno := term.Put(c.t, 2, c.u)
		if c.want <= api.MaxNodes && (errno != api.OK || len(got) != c.want || !ty.Right(got)) || c.want > api.MaxNodes && (errno != api.ErrDeep || len(got) != 0) {
			t.Errorf("%d nodes with %d: %d and %d, want %d", len(c.t), len(c.u), len(got), errno, c.want)
		}
	}
}

// R1: what is far too large is not built.
func TestPutHuge(t *testing.T) {
	var before, after runtime.MemStats
	x, u := bush(9999, api.Node{Kind: api.Var, N: 2}), bush(9999, api.Node{Kind: api.Int})
	runtime.ReadMemStats(&before)
	_, errno := term.Put(x, 2, u)
	runtime.ReadMemStats(&after)
	if many := after.TotalAlloc - before.TotalAlloc; errno != api.ErrDeep || many > 1<<26 {
		t.Errorf("%d, with %d bytes", errno, many)
	}
}

// labelled is x with this label.
func labelled(x api.Type, label string) api.Type {
	x = slices.Clone(x)
	x[0].Name = label
	return x
}

// P12.1 (L2): of several errors the one that the chapter names first counts, wherever they are.
func TestPutFirstError(t *testing.T) {
	deepest := arrows(api.MaxDeep-3, api.Node{Kind: api.Record, N: 1}, api.Node{Kind: api.Tail, N: 5}) // so a child of a child is too deep
	u := many(api.Record, 48, -1)
	u[1] = api.Node{Kind: api.Record, Name: u[1].Name, N: 1}
	u = slices.Insert(u, 2, api.Node{Kind: api.Record, Name: "x", N: 1}, api.Node{Kind: api.Int, Name: "y"})
	parts := []struct {
		x     api.Type
		errno api.Errno
	}{
		{of(t, "[A: int | ..5]"), api.ErrArg},
		{of(t, "{l01: int, ..5}"), api.ErrExists},
		{of(t, "{a: int, b: int, c: int, ..5}"), api.ErrLarge},
		{deepest, api.ErrDeep},
		{of(t, "{..5}"), api.OK},
		{of(t, "int"), api.OK},
	}
	if !ty.Right(u) {
		t.Fatal(u)
	}
	for i, p := range parts {
		for j, q := range parts {
			x := ty.Arrow(p.x, q.x)
			want := parts[min(i, j)].errno
			if !ty.Right(x) {
				t.Fatal(i, j)
			}
			if got, errno := term.Put(x, 5, u); errno != want || errno != api.OK && len(got) != 0 {
				t.Errorf("%d and %d: %d, want %d", i, j, errno, want)
			}
		}
	}
	vars := slices.Concat(api.Type{{Kind: api.Arrow}, {Kind: api.Arrow}}, bush(5001, api.Node{Kind: api.Var, N: 5}))
	for i, p := range parts { // with too many nodes beside it
		want := min(i, 3)
		if _, errno := term.Put(slices.Concat(vars, p.x, api.Type{{Kind: api.Int}}), 5, u); errno != parts[want].errno {
			t.Errorf("%d: %d", i, errno)
		}
	}
	both := slices.Concat(api.Type{{Kind: api.Record, N: 5}}, of(t, "{a: int, b: int, c: int, l07: int, ..5}")[1:])
	if _, errno := term.Put(both, 5, u); errno != api.ErrExists { // one record with two errors
		t.Error(errno)
	}
}

// P12.1 (L2): what is not valid is not the result, and all errors that apply to it count.
func TestPutNotValid(t *testing.T) {
	short, long := api.Type{{Kind: api.Arrow}, {Kind: api.Int}}, api.Type{{Kind: api.Int}, {Kind: api.Int}}
	for i, c := range []struct {
		t    api.Type
		u    api.Type
		want api.Errno
	}{
		{nil, nil, api.ErrDeep}, {nil, of(t, "int"), api.ErrDeep}, {of(t, "'5"), nil, api.ErrDeep}, {of(t, "'5 -> int"), nil, api.ErrDeep}, {of(t, "{a: '5}"), nil, api.ErrDeep}, {of(t, "{..5}"), nil, api.ErrArg}, {of(t, "int"), nil, api.OK},
		{of(t, "'5"), short, api.ErrDeep}, {of(t, "'5"), long, api.ErrDeep}, {short, of(t, "int"), api.ErrDeep}, {long, of(t, "int"), api.ErrDeep}, {of(t, "'4"), long, api.OK},
		{of(t, "'5"), api.Type{{Kind: api.Var, N: -1}}, api.ErrDeep}, {of(t, "'5"), api.Type{{Kind: api.Tail, N: 1}}, api.ErrDeep}, {of(t, "'5"), api.Type{{Kind: 10}}, api.ErrDeep}, {of(t, "'5"), api.Type{{Kind: -1}}, api.ErrDeep}, {of(t, "'5"), api.Type{{Kind: api.Union}}, api.ErrDeep},
		{of(t, "{..5}"), api.Type{{Kind: -1}}, api.ErrArg}, {api.Type{{Kind: api.Tail, N: 5}}, of(t, "{}"), api.ErrDeep}, {of(t, "[..5]"), api.Type{{Kind: api.Union}}, api.ErrDeep},
		{of(t, "'5"), of(t, "{a: int, a: int}"), api.ErrExists}, {of(t, "int -> '5"), of(t, "[B: {a: int, b: {}, a: int}]"), api.ErrExists}, {of(t, "{..5}"), of(t, "{a: int, a: int}"), api.ErrExists}, {of(t, "'4"), of(t, "{a: int, a: int}"), api.OK},
		{of(t, "{a: int, a: '5}"), of(t, "int"), api.ErrExists}, {of(t, "{b: int, a: '5}"), of(t, "int"), api.ErrDeep}, {of(t, "{b: int, ..5}"), of(t, "{d: int, c: int}"), api.ErrDeep},
		{of(t, "'5"), many(api.Record, 51, -1), api.ErrLarge}, {of(t, "'5"), many(api.Union, 50, 1), api.ErrLarge}, {of(t, "{..5}"), many(api.Record, 50, 1), api.ErrLarge}, {many(api.Record, 51, -1), of(t, "int"), api.ErrLarge}, {of(t, "'4"), many(api.Union, 51, -1), api.OK},
		{many(api.Record, 50, 5), of(t, "{}"), api.OK}, {many(api.Record, 50, 5), of(t, "{..6}"), api.ErrLarge},
	} {
		if got, errno := term.Put(c.t, 5, c.u); errno != c.want || errno != api.OK && len(got) != 0 {
			t.Errorf("%d: %v with %v: %v and %d, want %d", i, c.t, c.u, got, errno, c.want)
		}
	}
}
