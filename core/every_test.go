package core_test

import (
	"math"
	"math/bits"
	"slices"
	"testing"

	"leaven/core"
)

// A mask is a set of small numbers: bit i tells whether the number of index i is in it.
type mask uint

// names are the numbers for which the bits of a mask stand.
type names []int

func (l names) set(m mask) []int {
	var s []int
	for i, n := range l {
		if m>>i&1 == 1 {
			s = append(s, n)
		}
	}
	return s
}

func (l names) sets(ms []mask) [][]int {
	var out [][]int
	for _, m := range ms {
		out = append(out, l.set(m))
	}
	return out
}

func (m mask) isIn(other mask) bool { return m&^other == 0 }

// The chapter's words, on masks.

func fits(s mask, bad []mask) bool {
	return !slices.ContainsFunc(bad, func(b mask) bool { return b.isIn(s) })
}

func shrink(s mask, bad []mask) mask {
	for bit := mask(1); bit <= s; bit <<= 1 {
		if !fits(s&^bit, bad) {
			s &^= bit
		}
	}
	return s
}

func grow(s, all mask, bad []mask) mask {
	for bit := mask(1); bit <= all; bit <<= 1 {
		if all&bit != 0 && fits(s|bit, bad) {
			s |= bit
		}
	}
	return s
}

// least asks all proper subsets, and not only those that lack one number.
func least(s mask, bad []mask) bool {
	for m := mask(0); m < s; m++ {
		if m.isIn(s) && !fits(m, bad) {
			return false
		}
	}
	return !fits(s, bad)
}

// most asks all greater sets, and not only those with one more number.
func most(s, all mask, bad []mask) bool {
	for m := mask(0); m <= s|all; m++ {
		if m != s && s.isIn(m) && m.isIn(s|all) && fits(m, bad) {
			return false
		}
	}
	return fits(s, bad)
}

// tryShrink holds the functions without all numbers against the chapter's words.
func tryShrink(t *testing.T, l names, s mask, ms []mask) {
	set, bad := l.set(s), l.sets(ms)
	if got := core.Fits(set, bad); got != fits(s, ms) {
		t.Errorf("Fits %v, bad %v: %v", set, bad, got)
	}
	if got := core.Least(set, bad); got != least(s, ms) {
		t.Errorf("Least %v, bad %v: %v", set, bad, got)
	}
	got, ok := core.Shrink(set, bad)
	if fits(s, ms) {
		if len(got) != 0 || ok {
			t.Errorf("Shrink %v, bad %v: %v %v", set, bad, got, ok)
		}
		return
	}
	want := shrink(s, ms)
	if !slices.Equal(got, l.set(want)) || !ok || !core.Least(got, bad) || !least(want, ms) || !want.isIn(s) {
		t.Errorf("Shrink %v, bad %v: %v %v, want %v", set, bad, got, ok, l.set(want))
	}
}

// tryGrow holds the functions with all numbers against the chapter's words.
func tryGrow(t *testing.T, l names, s, a mask, ms []mask) {
	set, all, bad := l.set(s), l.set(a), l.sets(ms)
	if got := core.Most(set, all, bad); got != most(s, a, ms) {
		t.Errorf("Most %v, all %v, bad %v: %v", set, all, bad, got)
	}
	got, ok := core.Grow(set, all, bad)
	if !fits(s, ms) {
		if len(got) != 0 || ok {
			t.Errorf("Grow %v, all %v, bad %v: %v %v", set, all, bad, got, ok)
		}
		return
	}
	want := grow(s, a, ms)
	if !slices.Equal(got, l.set(want)) || !ok || !core.Most(got, all, bad) || !most(want, a, ms) || !s.isIn(want) {
		t.Errorf("Grow %v, all %v, bad %v: %v %v, want %v", set, all, bad, got, ok, l.set(want))
	}
}

// try holds all functions against the chapter's words, for all sets and all choices of all numbers.
func try(t *testing.T, l names, ms []mask) {
	for s := mask(0); s < 1<<len(l); s++ {
		tryShrink(t, l, s, ms)
		for a := mask(0); a < 1<<len(l); a++ {
			tryGrow(t, l, s, a, ms)
		}
	}
}

// P15.1 to P15.3: all sets of three numbers, with all bad sets that they can have.
func TestEveryOfThree(t *testing.T) {
	for _, l := range []names{{1, 2, 3}, {-1, 0, 1}, {math.MinInt, 5, math.MaxInt}} {
		for family := range 1 << 8 {
			var ms []mask
			for m := range mask(8) {
				if family>>m&1 == 1 {
					ms = append(ms, m)
				}
			}
			try(t, l, ms)
		}
	}
}

// P15.1 to P15.3: all sets of four numbers, with up to three bad sets in all orders, also the same ones.
func TestEveryOfFour(t *testing.T) {
	l := names{2, 3, 10, 11}
	for a := range mask(16) {
		try(t, l, []mask{a})
		for b := range mask(16) {
			try(t, l, []mask{a, b})
		}
	}
	for a := mask(1); a < 16; a++ {
		for b := mask(1); b < 16; b++ {
			for c := mask(1); c < 16; c++ {
				if bits.OnesCount(uint(a|b|c)) == 4 { // with fewer numbers it is as with three
					try(t, l, []mask{a, b, c})
				}
			}
		}
	}
}

// numbers is a source of numbers that are the same each time.
type numbers uint64

func (x *numbers) next(n int) int {
	*x = *x*6364136223846793005 + 1442695040888963407
	return int(*x >> 33 % numbers(n))
}

// mask is a set of some of n numbers, each one in one of odds cases.
func (x *numbers) mask(n, odds int) mask {
	var m mask
	for i := range n {
		if x.next(odds) == 0 {
			m |= 1 << i
		}
	}
	return m
}

// P15.1 to P15.3: sets of up to 60 numbers, with many bad sets; the bad sets' order, and sets that are there twice or contain others, change nothing.
func TestLargeSets(t *testing.T) {
	var l names
	for i := range 60 {
		l = append(l, 3*i-50)
	}
	x := numbers(1)
	for range 3000 {
		n := 1 + x.next(60)
		var ms []mask
		for range x.next(60) {
			ms = append(ms, x.mask(n, 2+x.next(12)))
		}
		s, a := x.mask(n, 1+x.next(8)), x.mask(n, 1+x.next(3))
		set, all, bad := l.set(s), l.set(a), l.sets(ms)
		slices.Reverse(ms)
		for _, m := range slices.Clone(ms) {
			ms = append(ms, m, m|x.mask(n, 2))
		}
		again := l.sets(ms)
		left, ok := core.Shrink(set, bad)
		if left2, ok2 := core.Shrink(set, again); ok == fits(s, ms) || ok2 != ok || !slices.Equal(left2, left) {
			t.Errorf("Shrink %v, bad %v: %v %v, then %v %v", set, bad, left, ok, left2, ok2)
		}
		if ok && (!slices.Equal(left, l.set(shrink(s, ms))) || !core.Least(left, bad)) {
			t.Errorf("Shrink %v, bad %v: %v", set, bad, left)
		}
		got, ok := core.Grow(set, all, bad)
		if got2, ok2 := core.Grow(set, all, again); ok != fits(s, ms) || ok2 != ok || !slices.Equal(got2, got) {
			t.Errorf("Grow %v, all %v, bad %v: %v %v, then %v %v", set, all, bad, got, ok, got2, ok2)
		}
		if ok && (!slices.Equal(got, l.set(grow(s, a, ms))) || !core.Most(got, all, bad)) {
			t.Errorf("Grow %v, all %v, bad %v: %v", set, all, bad, got)
		}
	}
}
