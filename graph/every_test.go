package graph_test

import (
	"runtime/debug"
	"slices"
	"strconv"
	"testing"

	"leaven/api"
	"leaven/graph"
)

// leads tells for each two modules whether the first one depends on the second one, straight from the definition.
func leads(l []api.Module) [][]bool {
	out := make([][]bool, len(l))
	for i, m := range l {
		out[i] = make([]bool, len(l))
		for _, name := range m.Imports {
			if k := slices.IndexFunc(l, func(m api.Module) bool { return m.Name == name }); k >= 0 {
				out[i][k] = true
			}
		}
	}
	for k := range l {
		for i := range l {
			for j := range l {
				out[i][j] = out[i][j] || out[i][k] && out[k][j]
			}
		}
	}
	return out
}

// fault is what H1 says that Order returns where there is no order, and OK elsewhere.
func fault(l []api.Module, dep [][]bool) (int, api.Errno) {
	named := func(name string) func(api.Module) bool {
		return func(m api.Module) bool { return m.Name == name }
	}
	for i, m := range l {
		if slices.ContainsFunc(l[:i], named(m.Name)) {
			return i, api.ErrExists
		}
	}
	for i, m := range l {
		for _, name := range m.Imports {
			if !slices.ContainsFunc(l, named(name)) {
				return i, api.ErrNone
			}
		}
	}
	least := -1
	for i, m := range l {
		if dep[i][i] && (least < 0 || m.Name < l[least].Name) {
			least = i
		}
	}
	if least >= 0 {
		return least, api.ErrCycle
	}
	return 0, api.OK
}

// next is the module that comes after the given ones: the one with the least name among those whose imports have all come.
func next(l []api.Module, dep [][]bool, come []int) int {
	least := -1
	for i, m := range l {
		free := !slices.Contains(come, i)
		for k := range l {
			free = free && (!dep[i][k] || slices.Contains(come, k))
		}
		if free && (least < 0 || m.Name < l[least].Name) {
			least = i
		}
	}
	return least
}

// hold holds what Order and Needs return for the modules against the definitions.
func hold(t *testing.T, l []api.Module) {
	t.Helper()
	dep := leads(l)
	got, at, e := graph.Order(l)
	wantAt, wantE := fault(l, dep)
	var want []int
	for wantE == api.OK && len(want) < len(l) {
		want = append(want, next(l, dep, want))
	}
	if !slices.Equal(got, want) || at != wantAt || e != wantE {
		t.Fatalf("%v: %v %d %d, want %v %d %d", l, got, at, e, want, wantAt, wantE)
	}
	for i := range l {
		var want []int
		for k := range l {
			if k == i || dep[i][k] {
				want = append(want, k)
			}
		}
		if got := graph.Needs(l, i); !slices.Equal(got, want) {
			t.Fatalf("%v, %d: %v, want %v", l, i, got, want)
		}
	}
}

// some is the names whose bits are set.
func some(names []string, bits uint64) []string {
	var out []string
	for i, name := range names {
		if bits>>i&1 == 1 {
			out = append(out, name)
		}
	}
	return out
}

// P8.1 to P8.3: up to three modules, with any of three names, that import any of four.
func TestEveryThree(t *testing.T) {
	imports, names := []string{"a", "b", "c", "d"}, []string{"b", "a", "c"}
	for n, count := range []int{1, 3 * 16, 9 * 256, 27 * 4096} {
		for k := range count {
			var l []api.Module
			for range n {
				l = append(l, api.Module{Name: names[k%3], Imports: some(imports, uint64(k/3%16))})
				k /= 48
			}
			hold(t, l)
		}
	}
}

// P8.1 to P8.3: all graphs of four modules, in changing listings.
func TestEveryFour(t *testing.T) {
	names := []string{"a", "b", "c", "d"}
	for k := range uint64(1 << 16) {
		l := make([]api.Module, 4)
		for i, name := range names {
			l[(uint64(i)*(k%2*2+1)+k/2)%4] = api.Module{Name: name, Imports: some(names, k>>(4*i)&15)}
		}
		hold(t, l)
	}
}

// P8.1 to P8.3: many graphs of up to nine modules, of few links and of many, told by the bits of products.
func TestManyNine(t *testing.T) {
	names := []string{"a", "b", "c", "d", "e", "f", "g", "h", "i"}
	for k := range uint64(40000) {
		n := 5 + k%5
		l := make([]api.Module, n)
		x := k + 1
		for i := range n {
			x *= 6364136223846793005
			bits := x >> 20 & (x >> 31)
			if k%3 > 0 {
				bits &= x >> 42
			}
			l[(i*11+k)%n] = api.Module{Name: names[i], Imports: some(names[:n], bits)}
		}
		hold(t, l)
	}
}

// long is a name that is at a place in the order of names.
func long(i int) string {
	return strconv.Itoa(1000000 + i)
}

// chain is n modules of which each imports the one after it.
func chain(n int) []api.Module {
	l := make([]api.Module, n)
	for i := range l {
		l[i].Name = long(i)
		if i+1 < n {
			l[i].Imports = []string{long(i + 1)}
		}
	}
	return l
}

// P8.1 and P8.2: a long chain takes neither a deep stack nor long.
func TestChain(t *testing.T) {
	defer debug.SetMaxStack(debug.SetMaxStack(1 << 20))
	const n = 200000
	l := chain(n)
	got, _, e := graph.Order(l)
	if len(got) != n || e != api.OK {
		t.Fatalf("%d %d", len(got), e)
	}
	for i, k := range got {
		if k != n-1-i {
			t.Fatalf("%d at %d", k, i)
		}
	}
	if needs := graph.Needs(l, 5); len(needs) != n-5 || needs[0] != 5 || needs[n-6] != n-1 {
		t.Errorf("%d", len(needs))
	}
	l[n-1].Imports = []string{long(n - 3)}
	if got, at, e := graph.Order(l); len(got) != 0 || at != n-3 || e != api.ErrCycle {
		t.Errorf("%v %d %d", got, at, e)
	}
	l[n-1].Imports = []string{long(0)}
	if got, at, e := graph.Order(l); len(got) != 0 || at != 0 || e != api.ErrCycle {
		t.Errorf("%v %d %d", got, at, e)
	}
	if needs := graph.Needs(l, n-1); len(needs) != n {
		t.Errorf("%d", len(needs))
	}
}

// P8.1 (H1): many modules between two cycles are on none, which takes no long to find.
func TestBetween(t *testing.T) {
	const n = 200000
	l := chain(n)
	l[n-1].Imports = []string{long(n - 1)}
	l = append(l, api.Module{Name: "x", Imports: []string{long(0), "y"}}, api.Module{Name: "y", Imports: []string{"x"}})
	if got, at, e := graph.Order(l); len(got) != 0 || at != n-1 || e != api.ErrCycle {
		t.Errorf("%v %d %d", got, at, e)
	}
	l[n-1].Imports = []string{"z"}
	l = append(l, api.Module{Name: "z", Imports: []string{"z"}})
	if got, at, e := graph.Order(l); len(got) != 0 || at != n || e != api.ErrCycle {
		t.Errorf("%v %d %d", got, at, e)
	}
}

// P8.1 and P8.2: a module that imports many, and that many import; and many imports of one name.
func TestBroad(t *testing.T) {
	const n = 100000
	l := []api.Module{{Name: "base"}, {Name: "1", Imports: make([]string, 0, n)}}
	for i := n - 1; i >= 0; i-- {
		l = append(l, api.Module{Name: long(i), Imports: []string{"base", "base"}})
		l[1].Imports = append(l[1].Imports, long(i))
	}
	got, _, e := graph.Order(l)
	if len(got) != n+2 || e != api.OK || got[0] != 0 || got[n+1] != 1 {
		t.Fatalf("%d %d", len(got), e)
	}
	for i, k := range got[1 : n+1] {
		if k != n+1-i {
			t.Fatalf("%d at %d", k, i)
		}
	}
	if needs := graph.Needs(l, 1); len(needs) != n+2 {
		t.Errorf("%d", len(needs))
	}
	if needs := graph.Needs(l, 2); !slices.Equal(needs, []int{0, 2}) {
		t.Errorf("%v", needs)
	}
}

// P8.1 and P8.2: each module imports all that come before it.
func TestComplete(t *testing.T) {
	const n = 1200
	l := make([]api.Module, n)
	for i := range l {
		l[i].Name = long(i)
		for k := i + 1; k < n; k++ {
			l[i].Imports = append(l[i].Imports, long(k))
		}
	}
	got, _, e := graph.Order(l)
	if len(got) != n || e != api.OK || got[0] != n-1 || got[n-1] != 0 || !slices.IsSortedFunc(got, func(a, b int) int { return b - a }) {
		t.Errorf("%d %d", len(got), e)
	}
	if needs := graph.Needs(l, 1); len(needs) != n-1 || needs[0] != 1 {
		t.Errorf("%d", len(needs))
	}
	l[n-1].Imports = []string{long(1)}
	if got, at, e := graph.Order(l); len(got) != 0 || at != 1 || e != api.ErrCycle {
		t.Errorf("%v %d %d", got, at, e)
	}
}
