package graph_test

import (
	"slices"
	"strings"
	"testing"

	"leaven/api"
	"leaven/graph"
)

// mods is the modules of a text: they are parted by semicolons, and each is a name and what it imports.
func mods(text string) []api.Module {
	var l []api.Module
	for _, s := range strings.Split(text, ";") {
		if x := strings.Fields(s); len(x) > 0 {
			l = append(l, api.Module{Name: x[0], Imports: x[1:]})
		}
	}
	return l
}

// order is the names of the modules in their order.
func order(l []api.Module, at []int) string {
	var names []string
	for _, i := range at {
		names = append(names, l[i].Name)
	}
	return strings.Join(names, " ")
}

// P8.1 (H1), and the chapter's example: the order.
func TestOrder(t *testing.T) {
	for _, c := range []struct {
		text string
		want []int
	}{
		{"", nil}, {"a", []int{0}}, {"b a; a", []int{1, 0}}, {"a; b a", []int{0, 1}}, {"a b; b", []int{1, 0}}, {"b; a", []int{1, 0}}, {"c; b; a", []int{2, 1, 0}},
		{"c; a c; b", []int{2, 0, 1}}, {"a z; b; z", []int{1, 2, 0}}, {"z; a z; y", []int{2, 0, 1}}, {"d c b; c a; b a; a", []int{3, 2, 1, 0}}, {"d b c; b a; c a; a", []int{3, 1, 2, 0}},
		{"a b c; b c; c", []int{2, 1, 0}}, {"c b; b a; a", []int{2, 1, 0}}, {"b d; d; a e; e; c", []int{4, 1, 0, 3, 2}}, {"a e; b d; c; d; e", []int{2, 3, 1, 4, 0}},
		{"b a a; a", []int{1, 0}}, {"c a b a b; b a a; a", []int{2, 1, 0}}, {"c a a; b; a", []int{2, 1, 0}},
		{"aa; a; A; Z; z; B; b9; b", []int{2, 5, 3, 1, 0, 7, 6, 4}}, {"é; z; \xff; ~", []int{1, 3, 0, 2}}, {"a.b; a; a-; a0; a_", []int{1, 2, 0, 3, 4}},
	} {
		got, at, e := graph.Order(mods(c.text))
		if !slices.Equal(got, c.want) || at != 0 || e != api.OK {
			t.Errorf("%s: %v %d %d, want %v", c.text, got, at, e, c.want)
		}
	}
}

// P8.1 (H1): what is told where there is no order, and which error comes first.
func TestNoOrder(t *testing.T) {
	for _, c := range []struct {
		text string
		at   int
		e    api.Errno
	}{
		{"a; a", 1, api.ErrExists}, {"a; b; c; b; a", 3, api.ErrExists}, {"a; a; a", 1, api.ErrExists}, {"b; a; b; a", 2, api.ErrExists}, {"a b; b a; a", 2, api.ErrExists}, {"a z; b; c; b", 3, api.ErrExists}, {"a a; a", 1, api.ErrExists}, {"c; a x; b; b; a", 3, api.ErrExists},
		{"a b", 0, api.ErrNone}, {"a; b c", 1, api.ErrNone}, {"a; b z; c y", 1, api.ErrNone}, {"c a; b z; a y", 1, api.ErrNone}, {"a; b a z", 1, api.ErrNone}, {"a b; b a z", 1, api.ErrNone}, {"a a; b z", 1, api.ErrNone}, {"a A", 0, api.ErrNone}, {"aa a", 0, api.ErrNone},
		{"a a", 0, api.ErrCycle}, {"b; a a", 1, api.ErrCycle}, {"a b; b a", 0, api.ErrCycle}, {"b a; a b", 1, api.ErrCycle}, {"a c; c b; b c", 2, api.ErrCycle}, {"c a; a b; b c", 1, api.ErrCycle}, {"b b; a a", 1, api.ErrCycle}, {"b b; c a; a c", 2, api.ErrCycle},
		{"a b; b b", 1, api.ErrCycle}, {"a b; b c; c d; d c", 2, api.ErrCycle}, {"b a; c b; a; d c e; e d", 3, api.ErrCycle}, {"a; b b a", 1, api.ErrCycle}, {"b b b", 0, api.ErrCycle},
		{"a c; b b a; c c", 1, api.ErrCycle}, {"d e; e d c; c b; b z; z y; y z", 0, api.ErrCycle}, {"b b c; c a; a e; e e", 0, api.ErrCycle}, {"f d; d b; b c; c a; a d", 4, api.ErrCycle}, {"f d; d e c; e d; c g; g h; h g", 1, api.ErrCycle},
		{"z Z; Z z; a", 1, api.ErrCycle}, {"aa a; a aa", 1, api.ErrCycle}, {"\xff é; é \xff", 1, api.ErrCycle},
	} {
		got, at, e := graph.Order(mods(c.text))
		if len(got) != 0 || at != c.at || e != c.e {
			t.Errorf("%s: %v %d %d, want %d %d", c.text, got, at, e, c.at, c.e)
		}
	}
}

// P8.1 (H1, H2): names are any bytes, also none, and only the names and the imports count.
func TestNames(t *testing.T) {
	l := []api.Module{{Name: "b", Imports: []string{""}, Defs: []api.Def{{Name: "x"}}}, {Name: "", Imports: []string{"\x00"}, Sites: []api.Site{{From: 1, To: 2}}}, {Name: "\x00"}, {Name: "a!b"}}
	if got, at, e := graph.Order(l); !slices.Equal(got, []int{2, 1, 3, 0}) || at != 0 || e != api.OK {
		t.Errorf("%v %d %d", got, at, e)
	}
	if got := graph.Needs(l, 0); !slices.Equal(got, []int{0, 1, 2}) {
		t.Errorf("%v", got)
	}
	l = []api.Module{{Name: "a"}, {Imports: []string{"a", ""}}}
	if got, at, e := graph.Order(l); len(got) != 0 || at != 1 || e != api.ErrCycle {
		t.Errorf("%v %d %d", got, at, e)
	}
	if got, at, e := graph.Order(make([]api.Module, 2)); len(got) != 0 || at != 1 || e != api.ErrExists {
		t.Errorf("%v %d %d", got, at, e)
	}
	if got, at, e := graph.Order([]api.Module{{Name: "a", Imports: []string{""}}}); len(got) != 0 || at != 0 || e != api.ErrNone {
		t.Errorf("%v %d %d", got, at, e)
	}
}

// P8.1 (H2).
func TestNeeds(t *testing.T) {
	for _, c := range []struct {
		text string
		i    int
		want []int
	}{
		{"a", 0, []int{0}}, {"b a; a", 0, []int{0, 1}}, {"b a; a", 1, []int{1}}, {"a; b a", 1, []int{0, 1}}, {"c; d; a b; b c", 2, []int{0, 2, 3}}, {"d b; c a; b a; a", 0, []int{0, 2, 3}}, {"a d; b; c; d c b", 0, []int{0, 1, 2, 3}},
		{"a; b c c a a; c", 1, []int{0, 1, 2}}, {"a b; b d; c d; d", 0, []int{0, 1, 3}}, {"a b c; b d; c d; d", 0, []int{0, 1, 2, 3}},
		{"a a", 0, []int{0}}, {"a b; b a", 1, []int{0, 1}}, {"a b; b c; c b; d a", 0, []int{0, 1, 2}}, {"a b; b c; c b; d a", 2, []int{1, 2}}, {"a b; b c; c b; d a", 3, []int{0, 1, 2, 3}},
		{"a z", 0, []int{0}}, {"a z b; b", 0, []int{0, 1}}, {"a b z; b y; c", 0, []int{0, 1}}, {"b B; B", 0, []int{0, 1}}, {"b B; Bb", 0, []int{0}},
		{"a b; b c; c; b d; d", 0, []int{0, 1, 2}}, {"a b; b c; c; b d; d", 3, []int{3, 4}}, {"a; b; a b", 2, []int{1, 2}}, {"a b; b; a a", 2, []int{0, 1, 2}}, {"a b; b; c a; a c", 3, []int{0, 1, 2, 3}}, {"a; a; a a; a", 2, []int{0, 2}}, {"a; a; a a; a", 1, []int{1}},
	} {
		if got := graph.Needs(mods(c.text), c.i); !slices.Equal(got, c.want) {
			t.Errorf("%s, %d: %v, want %v", c.text, c.i, got, c.want)
		}
	}
}

// P8.1 (H2): modules that do not exist need nothing.
func TestNeedsOfNone(t *testing.T) {
	l := mods("a b; b")
	for _, i := range []int{-1, -2, 2, 3, 1 << 62, -1 << 63} {
		if got := graph.Needs(l, i); len(got) != 0 {
			t.Errorf("%d: %v", i, got)
		}
		if got := graph.Needs(nil, i); len(got) != 0 {
			t.Errorf("none, %d: %v", i, got)
		}
	}
	if got := graph.Needs(nil, 0); len(got) != 0 {
		t.Errorf("%v", got)
	}
}

// P8.2: the order is that of the names, however the modules are listed.
func TestListing(t *testing.T) {
	for _, c := range []struct{ text, want string }{
		{"a d; b; c a; d; e", "b d a c e"}, {"a; b; c; d; e", "a b c d e"}, {"a b; b c; c d; d e; e", "e d c b a"}, {"a e; b e; c e; d e; e", "e a b c d"}, {"a b c d e; b; c; d; e", "b c d e a"}, {"b a; d c; c b; a; e b", "a b c d e"},
	} {
		permute(mods(c.text), 0, func(l []api.Module) {
			at, _, e := graph.Order(l)
			if order(l, at) != c.want || e != api.OK {
				t.Errorf("%v: %s %d, want %s", l, order(l, at), e, c.want)
			}
		})
	}
}

// P8.2 and P8.3: also the module that is told with ErrCycle does not depend on the listing.
func TestListingOfCycles(t *testing.T) {
	for _, c := range []struct{ text, want string }{
		{"a c; b b a; c c; d; e a", "b"}, {"d e; e d c; c b; b z; z z", "d"}, {"a b; b c; c d; d e; e b", "b"}, {"a b; b d; c a; d e; e d", "d"},
	} {
		permute(mods(c.text), 0, func(l []api.Module) {
			got, at, e := graph.Order(l)
			if len(got) != 0 || e != api.ErrCycle || l[at].Name != c.want {
				t.Errorf("%v: %v %d %d, want %s", l, got, at, e, c.want)
			}
		})
	}
}

// permute calls f with the modules in each order; the first n stay where they are.
func permute(l []api.Module, n int, f func([]api.Module)) {
	if n == len(l) {
		f(l)
		return
	}
	for i := n; i < len(l); i++ {
		l[n], l[i] = l[i], l[n]
		permute(l, n+1, f)
		l[n], l[i] = l[i], l[n]
	}
}

// Arguments stay as they are, also beyond the length of a slice; answers are new memory and the same each time.
func TestMemory(t *testing.T) {
	for _, text := range []string{"d c b; c a; b a; a", "a b; b c; c b; d a", "a; b a; a", "a; b z; c"} {
		whole := append(mods(text), api.Module{Name: "y", Imports: []string{"w"}}, api.Module{Name: "x"})
		l := whole[:len(whole)-2]
		for i := range l {
			l[i].Imports = append(slices.Clone(l[i].Imports), "v")[:len(l[i].Imports)]
		}
		was := copied(whole)
		first, at, e := graph.Order(l)
		kept := slices.Clone(first)
		for i := range first[:cap(first)] {
			first[:cap(first)][i] = -7
		}
		if second, at2, e2 := graph.Order(l); !slices.Equal(second, kept) || at2 != at || e2 != e {
			t.Errorf("%s: %v %d %d, then %v %d %d", text, kept, at, e, second, at2, e2)
		}
		for i := range l {
			first := graph.Needs(l, i)
			kept := slices.Clone(first)
			for i := range first[:cap(first)] {
				first[:cap(first)][i] = -7
			}
			if second := graph.Needs(l, i); !slices.Equal(second, kept) {
				t.Errorf("%s, %d: %v, then %v", text, i, kept, second)
			}
		}
		if !slices.EqualFunc(copied(whole), was, func(a, b api.Module) bool { return a.Name == b.Name && slices.Equal(a.Imports, b.Imports) }) {
			t.Errorf("%s: the modules are %v", text, whole)
		}
	}
}

// copied is a copy of modules, with what their imports have beyond their length.
func copied(l []api.Module) []api.Module {
	out := slices.Clone(l)
	for i := range out {
		out[i].Imports = slices.Clone(out[i].Imports[:cap(out[i].Imports)])
	}
	return out
}
