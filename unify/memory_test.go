package unify_test

import (
	"fmt"
	"slices"
	"testing"

	"leaven/api"
	"leaven/unify"
)

// spoil writes into a type, also beyond its length.
func spoil(x api.Type) {
	for i := range x[:cap(x)] {
		x[:cap(x)][i] = api.Node{Kind: -1, Name: "spoiled", N: -1}
	}
}

// R4 and R5: arguments stay as they are, also beyond the length of a slice, and are not kept; answers are new memory, and the same each time.
func TestMemory(t *testing.T) {
	var told [2]string
	for i := range told {
		s, other := unify.New(6), unify.New(6)
		tell := func(x api.Type) {
			told[i] += fmt.Sprintln(x)
			spoil(x)
		}
		for _, p := range pairs("'0 ~ {a: ?, ..4}; {b: ? -> '1, ..4} ~ {c: [A: ? | ..5], ..3}; '1 ~ '2; [..5] ~ [B: {a: '2}]; '2 ~ ? -> int; ? -> '1 ~ bool -> '2") {
			for k := range p {
				p[k] = append(p[k], api.Node{Kind: api.Tail, Name: "beyond", N: 1})[:len(p[k])]
			}
			was := fmt.Sprint(p[0][:cap(p[0])], p[1][:cap(p[1])])
			told[i] += fmt.Sprintln(s.Agree(p[0], p[1]))
			for k := range p {
				tell(s.Known(p[k]))
			}
			row := s.Open(api.Record, "a", p[0])
			told[i] += fmt.Sprintln(s.Agree(row, row))
			tell(row)
			tell(s.Var())
			if now := fmt.Sprint(p[0][:cap(p[0])], p[1][:cap(p[1])]); now != was {
				t.Errorf("%s, was %s", now, was)
			}
			spoil(p[0])
			spoil(p[1])
			for n := range 6 {
				tell(s.Known(variable(n, nil)))
				if x := variable(n, nil); !slices.Equal(other.Known(x), x) { // of which another solver knows nothing
					t.Error(n)
				}
			}
		}
		tell(s.Known(of("{a: '0 -> '1, b: {b: '2, ..4}, c: [..5]}")))
	}
	if told[0] != told[1] {
		t.Errorf("%s, then %s", told[0], told[1])
	}
}

// R4: Known and numbers that are given away change nothing that is known.
func TestKnownAgain(t *testing.T) {
	s, errno := solved(6, pairs("'0 ~ {a: ?, ..4}; {..4} ~ {b: ? -> '1, ..5}; '1 ~ '2"))
	if errno != api.OK {
		t.Fatal(errno)
	}
	want := known(s, 6, forms("'0; {c: '1, ..4}; {..5}; {a: ?, ..5} -> '0")...)
	exact := s.Known(of("'0"))
	for range 3 {
		s.Var()
		s.Open(api.Union, "A", of("?"))
		s.Known(of("{x: ?, ..4}"))
		s.Known(of("{b: ?, ..4}")) // which there is not
		if got := known(s, 6, forms("'0; {c: '1, ..4}; {..5}; {a: ?, ..5} -> '0")...); !slices.Equal(got, want) || !slices.Equal(s.Known(of("'0")), exact) {
			t.Errorf("%v, was %v", got, want)
		}
	}
	if s.Agree(of("{x: int, ..4}"), of("?")) != api.OK || s.Agree(of("'0"), of("{a: int, b: ?, y: int}")) != api.OK || fmt.Sprint(known(s, 6, forms("'0; {..5}")...)) != "[{a: int, b: '100 -> '1, y: int} {y: int}]" {
		t.Error(known(s, 6, forms("'0; {..5}")...))
	}
}
