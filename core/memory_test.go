package core_test

import (
	"slices"
	"testing"

	"leaven/core"
)

// cut is a copy of l, with more numbers beyond its length.
func cut(l []int) []int {
	return append(slices.Clone(l), 2, 1, 77)[:len(l)]
}

// whole is a copy of lists, with what lies beyond their length.
func whole(lists [][]int) [][]int {
	var out [][]int
	for _, l := range lists {
		out = append(out, slices.Clone(l[:cap(l)]))
	}
	return out
}

// spoil writes into a list, also beyond its length.
func spoil(l []int) {
	l = l[:cap(l)]
	for i := range l {
		l[i] = -7
	}
}

// R4: arguments stay as they are, also beyond their length, and answers are new memory and the same each time.
func TestMemory(t *testing.T) {
	for _, s := range [][]int{{1, 2, 3, 4}, {4, 3, 2, 1}, {1, 2}, {2, 2, 5, 1}, {3}, {}, {5, 6}} {
		for _, all := range [][]int{{1, 2, 3, 4, 5}, {5, 4, 4, 1}, {}} {
			args := [][]int{cut(s), cut(all), cut([]int{2, 3}), cut([]int{5, 4}), cut([]int{1, 3, 3})}
			was := whole(args)
			s, all, bad := args[0], args[1], args[2:4] // the last list lies beyond the length of bad
			core.Fits(s, bad)
			core.Least(s, bad)
			core.Most(s, all, bad)
			left, ok := core.Shrink(s, bad)
			got, ok2 := core.Grow(s, all, bad)
			keptLeft, keptGot := slices.Clone(left), slices.Clone(got)
			spoil(left)
			if got2, _ := core.Grow(s, all, bad); !slices.Equal(got2, keptGot) || !slices.Equal(got, keptGot) || ok2 == ok {
				t.Errorf("%v, all %v: %v, then %v", s, all, keptGot, got2)
			}
			spoil(got)
			if left2, _ := core.Shrink(s, bad); !slices.Equal(left2, keptLeft) {
				t.Errorf("%v: %v, then %v", s, keptLeft, left2)
			}
			if now := whole(args); !slices.EqualFunc(now, was, slices.Equal) {
				t.Errorf("the arguments %v are %v", was, now)
			}
		}
	}
}

// R3: beside false there is no list.
func TestNothing(t *testing.T) {
	if left, ok := core.Shrink([]int{1, 2}, [][]int{{3}}); left != nil || ok {
		t.Errorf("%v %v", left, ok)
	}
	if got, ok := core.Grow([]int{1, 2}, []int{1, 2, 3}, [][]int{{2}}); got != nil || ok {
		t.Errorf("%v %v", got, ok)
	}
}
