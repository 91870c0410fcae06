package core_test

import (
	"math"
	"slices"
	"testing"

	"leaven/core"
)

// shrunk is one call of Shrink: a set, bad sets, and what is left, or false.
type shrunk struct {
	s    []int
	bad  [][]int
	want []int
	ok   bool
}

// grown is one call of Grow: a set, all numbers, bad sets, and what is grown, or false.
type grown struct {
	s, all []int
	bad    [][]int
	want   []int
	ok     bool
}

// upTo is the set of the numbers from 1 to n.
func upTo(n int) []int {
	var s []int
	for i := 1; i <= n; i++ {
		s = append(s, i)
	}
	return s
}

// P15.1, the chapter's example.
func TestExample(t *testing.T) {
	bad := [][]int{{2, 3}}
	if got, ok := core.Shrink([]int{1, 2, 3, 4}, bad); !slices.Equal(got, []int{2, 3}) || !ok {
		t.Errorf("%v %v", got, ok)
	}
	if got, ok := core.Grow(nil, []int{1, 2, 3, 4}, bad); !slices.Equal(got, []int{1, 2, 4}) || !ok {
		t.Errorf("%v %v", got, ok)
	}
}

// P15.1: what fits.
func TestFits(t *testing.T) {
	for _, c := range []struct {
		s    []int
		bad  [][]int
		want bool
	}{
		{nil, nil, true}, {[]int{1, 2}, nil, true}, {nil, [][]int{{1}}, true}, {nil, [][]int{{}}, false}, {nil, [][]int{{1}, nil}, false}, {[]int{1}, [][]int{nil}, false},
		{[]int{1}, [][]int{{1}}, false}, {[]int{2}, [][]int{{1}}, true}, {[]int{1, 2}, [][]int{{1, 3}, {2, 3}}, true}, {[]int{1, 3}, [][]int{{2}, {1, 3}}, false}, {[]int{1, 2, 3}, [][]int{{1, 3}}, false},
		{[]int{1, 2}, [][]int{{1, 2, 3}}, true}, {[]int{1, 2, 3}, [][]int{{1, 2, 3}}, false}, {[]int{2, 3}, [][]int{{1, 2, 3}, {3, 4}}, true}, {[]int{1, 2, 3}, [][]int{{4}, {4}, {2}, {2}}, false},
		{[]int{-3, 0, 3}, [][]int{{-3, 3}}, false}, {[]int{0, 3}, [][]int{{-3, 3}}, true}, {[]int{math.MinInt, math.MaxInt}, [][]int{{math.MinInt, math.MaxInt}}, false}, {[]int{math.MinInt, math.MaxInt}, [][]int{{math.MinInt, 0}, {-1, math.MaxInt}}, true},
	} {
		if got := core.Fits(c.s, c.bad); got != c.want {
			t.Errorf("%v, bad %v: %v", c.s, c.bad, got)
		}
	}
}

// P15.1 (O1): numbers are removed from the least one on, so that of several minimal sets the one is left that lacks the least numbers.
func TestShrink(t *testing.T) {
	for _, c := range []shrunk{
		{[]int{1, 2, 3}, [][]int{{1}, {2}, {3}}, []int{3}, true}, {[]int{1, 2, 3}, [][]int{{3}, {2}, {1}}, []int{3}, true}, {[]int{1, 2, 3}, [][]int{{2, 3}, {1}}, []int{2, 3}, true}, {[]int{1, 2, 3, 4}, [][]int{{1, 4}, {2, 3}}, []int{2, 3}, true},
		{[]int{1, 2, 3, 4}, [][]int{{1, 2}, {1, 3, 4}}, []int{1, 3, 4}, true}, {[]int{1, 2, 3, 4}, [][]int{{1, 3, 4}, {1, 4}, {3, 4}, {2, 3, 4}}, []int{3, 4}, true}, {[]int{1, 2}, [][]int{{1, 2}}, []int{1, 2}, true}, {[]int{7}, [][]int{{7}}, []int{7}, true},
		{[]int{1, 2, 4}, [][]int{{2, 3}, {1, 2}}, []int{1, 2}, true}, {[]int{1, 2, 3}, [][]int{{0, 3}, {2, 5}, {1, 2}}, []int{1, 2}, true}, {[]int{1, 2, 3}, [][]int{{1, 2}, {1, 2}, {1, 2}}, []int{1, 2}, true},
		{[]int{1, 2}, [][]int{{1, 2}, {}}, nil, true}, {nil, [][]int{{}}, nil, true}, {[]int{5}, [][]int{nil, nil}, nil, true},
		{nil, nil, nil, false}, {nil, [][]int{{1}}, nil, false}, {[]int{1, 2, 3}, nil, nil, false}, {[]int{1, 3}, [][]int{{1, 2}, {2, 3}, {3, 4}}, nil, false}, {[]int{2}, [][]int{{1, 2, 3}}, nil, false},
		{[]int{-2, -1, 0}, [][]int{{-2, 0}, {-1}}, []int{-1}, true}, {[]int{-10, -9, 9, 10}, [][]int{{-10, 9}, {-9, 10}}, []int{-9, 10}, true}, {[]int{math.MinInt, 0, math.MaxInt}, [][]int{{math.MinInt, math.MaxInt}}, []int{math.MinInt, math.MaxInt}, true},
	} {
		if got, ok := core.Shrink(c.s, c.bad); !slices.Equal(got, c.want) || ok != c.ok {
			t.Errorf("%v, bad %v: %v %v, want %v %v", c.s, c.bad, got, ok, c.want, c.ok)
		}
	}
}

// P15.1 (O2): numbers are added from the least one on, only those of all, and those that are not of all stay.
func TestGrow(t *testing.T) {
	for _, c := range []grown{
		{nil, []int{1, 2, 3}, nil, []int{1, 2, 3}, true}, {nil, []int{1, 2, 3}, [][]int{{1, 2}, {1, 3}}, []int{1}, true}, {[]int{3}, []int{1, 2, 3}, [][]int{{1, 3}, {2, 3}}, []int{3}, true}, {[]int{2}, []int{1, 2, 3}, [][]int{{1, 2, 3}}, []int{1, 2}, true},
		{nil, []int{1, 2, 3}, [][]int{{1}}, []int{2, 3}, true}, {nil, []int{1, 2, 3}, [][]int{{1}, {2}, {3}}, nil, true}, {[]int{4}, []int{1, 2, 3, 4, 5}, [][]int{{1, 4}, {2, 3}, {2, 4, 5}}, []int{2, 4}, true}, {nil, upTo(6), [][]int{{1, 2}, {3, 4}, {5, 6}}, []int{1, 3, 5}, true},
		{[]int{3, 9}, []int{1, 5}, [][]int{{5, 9}}, []int{1, 3, 9}, true}, {[]int{2}, nil, [][]int{{1}}, []int{2}, true}, {[]int{0, 2}, []int{2}, [][]int{{0, 1}}, []int{0, 2}, true}, {[]int{6}, []int{5, 7}, [][]int{{5, 7}}, []int{5, 6}, true},
		{nil, []int{1, 2}, [][]int{{1, 2, 3}, {0}}, []int{1, 2}, true}, {nil, nil, nil, nil, true}, {nil, nil, [][]int{{1}}, nil, true}, {nil, []int{1, 2}, [][]int{{2}, {2}, {1, 2}}, []int{1}, true},
		{nil, nil, [][]int{nil}, nil, false}, {[]int{1}, []int{1, 2}, [][]int{{}}, nil, false}, {[]int{1, 2}, []int{1, 2, 3}, [][]int{{1, 2}}, nil, false}, {[]int{1, 2}, nil, [][]int{{3}, {2}}, nil, false}, {[]int{8}, []int{1}, [][]int{{8}}, nil, false},
		{[]int{0}, []int{-2, -1, 1}, [][]int{{-2, -1}, {-2, 0, 1}}, []int{-2, 0}, true}, {[]int{math.MaxInt}, []int{math.MinInt, -1, 0}, [][]int{{math.MinInt, -1}, {0, math.MaxInt}}, []int{math.MinInt, math.MaxInt}, true},
	} {
		if got, ok := core.Grow(c.s, c.all, c.bad); !slices.Equal(got, c.want) || ok != c.ok {
			t.Errorf("%v, all %v, bad %v: %v %v, want %v %v", c.s, c.all, c.bad, got, ok, c.want, c.ok)
		}
	}
}

// P15.1 (O3).
func TestLeast(t *testing.T) {
	for _, c := range []struct {
		s    []int
		bad  [][]int
		want bool
	}{
		{[]int{2, 3}, [][]int{{2, 3}}, true}, {[]int{1, 2, 3}, [][]int{{2, 3}}, false}, {[]int{2, 3, 4}, [][]int{{2, 3}}, false}, {[]int{2, 3, 4}, [][]int{{2, 4}}, false}, {[]int{2}, [][]int{{2, 3}}, false}, {[]int{1, 2, 3}, [][]int{{1, 2, 3}, {1, 2}}, false}, {[]int{1, 2, 3}, [][]int{{1, 2, 3}, {1, 4}}, true},
		{[]int{1}, [][]int{{1}, {1}}, true}, {[]int{1, 2}, [][]int{{1}, {2}}, false}, {[]int{1, 2, 3}, [][]int{{1, 2}, {2, 3}}, false}, {nil, nil, false}, {nil, [][]int{{1}}, false}, {nil, [][]int{{}}, true}, {[]int{1}, [][]int{{}}, false}, {[]int{1}, [][]int{{1}, nil}, false}, {[]int{1, 2}, nil, false},
		{[]int{math.MinInt, -1}, [][]int{{math.MinInt, -1}, {math.MinInt, 0}}, true},
	} {
		if got := core.Least(c.s, c.bad); got != c.want {
			t.Errorf("%v, bad %v: %v", c.s, c.bad, got)
		}
	}
}

// P15.1 (O3).
func TestMost(t *testing.T) {
	for _, c := range []struct {
		s, all []int
		bad    [][]int
		want   bool
	}{
		{[]int{1, 2, 4}, upTo(4), [][]int{{2, 3}}, true}, {[]int{1, 3, 4}, upTo(4), [][]int{{2, 3}}, true}, {[]int{1, 4}, upTo(4), [][]int{{2, 3}}, false}, {[]int{1, 2}, upTo(4), [][]int{{2, 3}}, false}, {[]int{2, 4}, upTo(4), [][]int{{2, 3}}, false}, {[]int{1, 2, 3}, upTo(4), [][]int{{2, 3}}, false}, {upTo(4), upTo(4), [][]int{{2, 3}}, false},
		{nil, nil, nil, true}, {nil, []int{1}, nil, false}, {[]int{1}, []int{1}, nil, true}, {[]int{1, 2}, []int{1}, nil, true}, {[]int{5}, []int{1}, [][]int{{1, 5}}, true}, {[]int{5}, []int{1}, [][]int{{1, 6}}, false}, {[]int{5}, nil, [][]int{{5}}, false}, {[]int{5}, nil, [][]int{{6}}, true},
		{nil, nil, [][]int{nil}, false}, {nil, []int{1, 2}, [][]int{{1}, {2}}, true}, {nil, []int{1, 2}, [][]int{{1}, {2, 3}}, false}, {nil, []int{1, 2}, [][]int{{2}, {1, 3}}, false}, {nil, []int{1, 2}, [][]int{{1, 2}}, false}, {[]int{math.MaxInt}, []int{math.MinInt, math.MaxInt}, [][]int{{math.MinInt, math.MaxInt}}, true},
	} {
		if got := core.Most(c.s, c.all, c.bad); got != c.want {
			t.Errorf("%v, all %v, bad %v: %v", c.s, c.all, c.bad, got)
		}
	}
}

// Lists that are no sets, as their numbers are not ascending or are there twice, count as the sets of their numbers.
func TestNoSets(t *testing.T) {
	bad := [][]int{{3, 2}, {5, 5}, {4, 1, 4}}
	if core.Fits([]int{3, 1, 2}, bad) || core.Fits([]int{5}, bad) || !core.Fits([]int{2, 2, 1, 1}, bad) || core.Fits([]int{4, 1}, bad) || !core.Fits([]int{4, 4, 4}, bad) {
		t.Error("Fits")
	}
	if got, ok := core.Shrink([]int{4, 3, 3, 2, 1}, bad); !slices.Equal(got, []int{2, 3}) || !ok {
		t.Errorf("%v %v", got, ok)
	}
	if got, ok := core.Shrink([]int{4, 4, 3, 3}, bad); len(got) != 0 || ok {
		t.Errorf("%v %v", got, ok)
	}
	if got, ok := core.Grow([]int{6, 2, 6}, []int{5, 4, 4, 3, 2, 1, 1}, bad); !slices.Equal(got, []int{1, 2, 6}) || !ok {
		t.Errorf("%v %v", got, ok)
	}
	if !core.Least([]int{3, 2}, bad) || !core.Least([]int{5, 5}, bad) || core.Least([]int{3, 2, 1}, bad) {
		t.Error("Least")
	}
	if !core.Most([]int{2, 1, 1}, []int{4, 3, 2, 1, 2}, bad) || core.Most([]int{2, 2}, []int{4, 4, 3}, bad) {
		t.Error("Most")
	}
}

// Many numbers and many bad sets: the work grows with the size of the arguments, and not with its square.
func TestMany(t *testing.T) {
	const most = 200000
	all := upTo(most)
	var bad [][]int // each number and the next one
	for _, n := range all[1:] {
		bad = append(bad, []int{n - 1, n})
	}
	left, ok := core.Shrink(all, bad)
	if !slices.Equal(left, []int{most - 1, most}) || !ok || !core.Least(left, bad) || core.Least(all, bad) {
		t.Errorf("%d left, %v", len(left), ok)
	}
	got, ok := core.Grow(nil, all, bad)
	if len(got) != most/2 || got[0] != 1 || got[most/2-1] != most-1 || !ok || !core.Most(got, all, bad) || core.Most(got[1:], all, bad) {
		t.Errorf("%d grown, %v", len(got), ok)
	}
	bad = [][]int{all, all[1:], all[:most-1]}
	if left, ok = core.Shrink(all, bad); !slices.Equal(left, all[1:]) || !ok {
		t.Errorf("%d left, %v", len(left), ok)
	}
	if got, ok = core.Grow(all[2:], all, bad); len(got) != most-1 || got[0] != 1 || got[1] != 3 || !ok {
		t.Errorf("%d grown, %v", len(got), ok)
	}
}
