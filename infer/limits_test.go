package infer_test

import (
	"fmt"
	"slices"
	"strings"
	"testing"

	"leaven/api"
	"leaven/assign"
	"leaven/infer"
	"leaven/ty"
)

// checkErrno checks which error there is for a set of sites, and that its assignment, if there is none, yields types.
func checkErrno(t *testing.T, p []api.Module, s []int, want api.Errno) []api.Choice {
	t.Helper()
	l, errno := infer.Solve(p, s)
	if errno != want || infer.Feasible(p, s) != (want == api.OK) {
		t.Errorf("%v: %d, want %d", s, errno, want)
	}
	if errno == api.OK && (!assign.Right(l) || !slices.Equal(set(l), s) || !hasTypes(assign.Program(p, l))) {
		t.Errorf("%v: wrong types", s)
	}
	return l
}

// repeat is the texts that form yields for the numbers from 0 to n - 1, with a text in between.
func repeat(n int, form, between string) string {
	var l []string
	for i := range n {
		l = append(l, strings.ReplaceAll(form, "#", fmt.Sprintf("%02d", i)))
	}
	return strings.Join(l, between)
}

// P14.1 (N1), P14.2, P14.3: a site can have a type of depth 100, but not a deeper one; types in between may be deeper.
func TestDeep(t *testing.T) {
	p, n := program(t, "m", "def f = "+repeat(99, "fun (x#: int) -> ", "")+"1; def g = fun (y: int) -> f; def h = (fun (y: int) -> f) 1; def k: ? -> int -> ? = fun (y) -> fun (z: int) -> f;")
	if n != 6 {
		t.Fatal(n)
	}
	l := checkErrno(t, p, []int{1}, api.OK)
	if deep := l[0].T; len(deep) != 199 || !ty.Right(deep) || ty.Right(ty.Arrow(deep, deep)) {
		t.Error("not at the limit")
	}
	checkErrno(t, p, []int{2}, api.OK)
	checkErrno(t, p, []int{1, 2}, api.ErrType)
	checkErrno(t, p, []int{1, 3}, api.OK)
	checkErrno(t, p, []int{1, 3, 4, 5, 6}, api.OK) // the ? is below the level 2
	checkErrno(t, p, []int{2, 3, 4, 5, 6}, api.OK)
	p, n = program(t, "m", "def f = fun (x) -> x "+repeat(97, "1", " ")+"; def g = f; def h = {a = f}; def k = {a = h}.a.a;")
	if n != 5 {
		t.Fatal(n)
	}
	if l := checkErrno(t, p, upTo(4), api.OK); len(l[0].T) != 197 || len(l[3].T) != 198 {
		t.Errorf("%s", told(l))
	}
	checkErrno(t, p, upTo(5), api.OK)
	p, _ = program(t, "m", "def f = fun (x) -> x "+repeat(97, "1", " ")+"; def g = f; def h = {a = f}; def k = {a = h}; def l = k.a.a;")
	checkErrno(t, p, []int{1, 2, 3, 4, 6}, api.OK)
	checkErrno(t, p, upTo(6), api.ErrType)
	checkErrno(t, p, []int{2, 3, 4, 5, 6}, api.OK) // f is a ?
}

// P14.1 (N1), P14.2, P14.3: a record can have 50 children, whether they are all that it has or not.
func TestWide(t *testing.T) {
	for _, c := range []struct {
		n     int
		errno api.Errno
	}{{49, api.OK}, {50, api.OK}, {51, api.ErrType}} {
		p, _ := program(t, "m", "def f: ? = fun (x) -> "+repeat(c.n, "x.l#", " + ")+"; def g: ? = fun (x) -> x.a + (fun (y) -> "+repeat(c.n-1, "y.l#", " + ")+") x;")
		l := checkErrno(t, p, []int{2}, c.errno)
		if c.errno == api.OK && (len(l) != 1 || l[0].T[0].N != c.n || len(l[0].T) != c.n+1) {
			t.Errorf("%s", told(l))
		}
		checkErrno(t, p, []int{4}, api.OK)
		checkErrno(t, p, []int{5}, api.OK)
		checkErrno(t, p, []int{4, 5}, c.errno)
	}
	p, n := program(t, "m", "def c = fun (x) -> case x of "+repeat(50, "L# y -> y + 1", " | ")+" end; def d = fun (x) -> case [L07 = x] of "+repeat(50, "L# y -> y + 1", " | ")+" end; def e = {"+repeat(50, "l# = (#: ?)", ", ")+"};")
	l := checkErrno(t, p, []int{1, 2, 4, 5}, api.OK)
	if want := "[" + repeat(50, "L#: int", " | ") + "]"; told(l) != "1: "+want+" -> int; 2: "+want+"; 4: int; 5: "+want {
		t.Errorf("%s", told(l))
	}
	l = checkErrno(t, p, upTo(n), api.OK)
	if want := "6: {" + repeat(50, "l#: int", ", ") + "}; 7: int"; !strings.Contains(told(l), want) {
		t.Errorf("%s", told(l))
	}
}

// P14.1 (N1), P14.2, P14.3: a site can have a type with 10000 nodes, but no larger one; types in between may be larger, also much.
func TestLarge(t *testing.T) {
	text := "def a0 = {a = 1, b = 1};"
	for i := range 11 {
		text += fmt.Sprintf(" def a%d = {a = a%d, b = a%d};", i+1, i, i)
	}
	const most = "a = a11, b = a8, c = a7, d = a6, e = a2, f = a0, g = 1"
	p, n := program(t, "m", text+" def b = {"+most+"}; def c = {"+most+", h = 1}; def d = {x = b, y = {z = b}}.y.z.g; def e = {"+repeat(10, "l# = {"+repeat(10, "l# = a11", ", ")+"}", ", ")+"}.l00.l01.b; def f = a11.a.b.b.a;")
	if n != 17 {
		t.Fatal(n)
	}
	l := checkErrno(t, p, upTo(13), api.OK)
	if len(l[12].T) != api.MaxNodes || !ty.Right(l[12].T) {
		t.Error(len(l[12].T))
	}
	checkErrno(t, p, upTo(14), api.ErrType)
	checkErrno(t, p, slices.Delete(upTo(17), 13, 14), api.OK)
	checkErrno(t, p, slices.Delete(upTo(17), 11, 12), api.OK)
	checkErrno(t, p, upTo(17)[1:], api.OK) // without a0, those that are made of it are smaller
	checkErrno(t, p, []int{14}, api.OK)
	p, n = program(t, "m", text+" def c = {a = a11, b = a11}.a; def d = (fun (x) -> c) {a = a11, b = a11};")
	checkErrno(t, p, slices.Delete(upTo(n), n-1, n), api.OK)
	checkErrno(t, p, upTo(n), api.ErrType) // x is the larger record
}

// P14.1 (N1): 60 sites, and a type that would have 2^60 nodes.
func TestManySites(t *testing.T) {
	text := "def a00 = {a = 1, b = 1};"
	for i := range 59 {
		text += fmt.Sprintf(" def a%02d = {a = a%02d, b = a%02d};", i+1, i, i)
	}
	p, n := program(t, "m", text)
	if n != api.MaxSites {
		t.Fatal(n)
	}
	checkErrno(t, p, upTo(12), api.OK)
	checkErrno(t, p, upTo(13), api.ErrType)
	checkErrno(t, p, upTo(n), api.ErrType)
	var every []int
	for s := 1; s <= n; s += 2 {
		every = append(every, s)
	}
	checkErrno(t, p, every, api.OK)
	p, n = program(t, "m", "def f: ? = "+repeat(58, "fun (x#) -> ", "")+"("+repeat(30, "x# x40.l#", " + ")+");")
	l := checkErrno(t, p, upTo(n)[1:], api.OK)
	if want := "42: {" + repeat(30, "l#: unit", ", ") + "}"; n != 59 || !strings.Contains(told(l), want) {
		t.Errorf("%d %s", n, told(l))
	}
	checkErrno(t, p, upTo(n), api.OK)
}

// P14.1 (N1): expressions with many parts, and with large types in them.
func TestManyParts(t *testing.T) {
	row := "{" + repeat(50, "l#: {a: int, b: bool, c: int -> int}", ", ") + "}"
	uses := repeat(20, "def d#: int = "+strings.Repeat("f r + r.l09.a + ", 45)+"1;", " ")
	p, _ := program(t, "m", "def r = ((1: ?): "+row+"); def f = fun (x: "+row+") -> 1; "+uses)
	checkErrno(t, p, []int{1}, api.OK)
	checkErrno(t, p, []int{2}, api.ErrType)
	var tree func(depth int) string
	tree = func(depth int) string {
		if depth == 0 {
			return "x.z"
		}
		return fmt.Sprintf("(case x.a%d of A y -> %s | B y -> %s end)", depth, tree(depth-1), tree(depth-1))
	}
	p, n := program(t, "m", "def f = fun (x) -> "+tree(9)+" + 1;")
	l := checkErrno(t, p, upTo(n), api.OK)
	var want []string
	for i := range 9 {
		want = append(want, fmt.Sprintf("a%d: [A: unit | B: unit]", i+1))
	}
	if told(l[1:]) != "2: {"+strings.Join(want, ", ")+", z: int}" {
		t.Errorf("%s", told(l))
	}
}
