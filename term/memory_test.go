package term_test

import (
	"fmt"
	"slices"
	"testing"

	"leaven/api"
	"leaven/term"
	"leaven/ty"
)

// spoil writes into a type, also beyond its length.
func spoil(x api.Type) {
	for i := range x[:cap(x)] {
		x[:cap(x)][i] = api.Node{Kind: -1, Name: "spoiled", N: -1}
	}
}

// R4 and R5: arguments stay as they are, also beyond the length of a slice; answers are new memory, and the same each time.
func TestMemory(t *testing.T) {
	var kept []api.Type
	arg := func(text string) api.Type {
		long := append(of(t, text), api.Node{Kind: api.Tail, Name: "beyond", N: 1})
		kept = append(kept, long)
		return long[:len(long)-1]
	}
	row, tag, plain := arg("{a: ?, c: '1 -> {..5}, ..5}"), arg("'1"), arg("int -> [A: int]")
	u, v := arg("{b: '1, d: ? -> int, ..5}"), arg("? -> '1")
	l := append([]api.Type{row, tag, plain, u, row}, v)[:5]
	was := fmt.Sprint(kept, l[:6])
	var answers [2]string
	for i := range answers {
		var got []api.Type
		for _, x := range []api.Type{row, tag, plain, u} {
			fresh, _ := term.Fresh(x, 3)
			got = append(got, fresh, term.Ground(x))
			for n := range 6 {
				for _, y := range []api.Type{u, v, x} {
					put, errno := term.Put(x, n, y)
					answers[i] += fmt.Sprint(errno)
					got = append(got, put)
				}
			}
			vars := term.Vars(x)
			answers[i] += fmt.Sprint(vars)
			clear(vars[:cap(vars)])
		}
		canon := term.Canon(l)
		got = append(got, canon...)
		clear(canon[:cap(canon)])
		answers[i] += fmt.Sprint(got)
		for k, x := range got { // what one answer consists of shares no memory with another one
			spoil(x)
			if rest := got[k+1:]; slices.ContainsFunc(rest, func(y api.Type) bool { return len(y) > 0 && y[0].Kind == -1 }) {
				t.Fatalf("%d: %v", k, rest)
			}
		}
		if now := fmt.Sprint(kept, l[:6]); now != was {
			t.Fatalf("%s, was %s", now, was)
		}
	}
	if answers[0] != answers[1] {
		t.Errorf("%s, then %s", answers[0], answers[1])
	}
}

// R4: a type that is put in several places stands in memory of its own in each of them.
func TestMemoryWithin(t *testing.T) {
	got, errno := term.Put(of(t, "{a: '1, b: '1, c: {..2}}"), 1, of(t, "'3 -> int"))
	if errno != api.OK || got[2].N != 3 || got[5].N != 3 {
		t.Fatal(got, errno)
	}
	got[2].N = 4
	if ty.Print(got) != "{a: '4 -> int, b: '3 -> int, c: {..2}}" {
		t.Error(ty.Print(got))
	}
}
