package term_test

import (
	"maps"
	"slices"
	"testing"

	"leaven/api"
	"leaven/term"
	"leaven/ty"
)

// small is all types of up to most nodes that are made of ?, int, the variables 1 and 2, arrows, and rows with two labels.
func small(most int) []api.Type {
	bySize := make([][]api.Type, most+1)
	bySize[1] = []api.Type{{{Kind: api.Dyn, N: 3}}, {{Kind: api.Int}}, {{Kind: api.Var, N: 1}}, {{Kind: api.Var, N: 2}}, {{Kind: api.Record}}}
	for n := 2; n <= most; n++ {
		for i := 1; i < n-1; i++ {
			for _, x := range bySize[i] {
				for _, y := range bySize[n-1-i] {
					bySize[n] = append(bySize[n], ty.Arrow(x, y))
				}
			}
		}
		for tail := range 3 { // 0 is none
			bySize[n] = append(bySize[n], rows(bySize, n, tail)...)
		}
	}
	return slices.Concat(bySize...)
}

// rows is all records and unions of n nodes with this tail, if it is not 0.
func rows(bySize [][]api.Type, n, tail int) []api.Type {
	var l []api.Type
	left := n - 1 - min(tail, 1)
	for _, labels := range [][2]string{{"a", "b"}, {"A", "B"}} {
		if left == 0 && tail > 0 {
			l = append(l, row(labels, nil, nil, tail))
		}
		for _, x := range bySize[left] {
			l = append(l, row(labels, x, nil, tail), row(labels, nil, x, tail))
		}
		for i := 1; i < left; i++ {
			for _, x := range bySize[i] {
				for _, y := range bySize[left-i] {
					l = append(l, row(labels, x, y, tail))
				}
			}
		}
	}
	return l
}

// row is the record or the union with these children, where they are not nil, and with this tail, if it is not 0.
func row(labels [2]string, a, b api.Type, tail int) api.Type {
	x := api.Type{{Kind: api.Union}}
	if labels[0] == "a" {
		x[0].Kind = api.Record
	}
	for i, kid := range []api.Type{a, b} {
		if kid != nil {
			x[0].N++
			x = append(x, labelled(kid, labels[i])...)
		}
	}
	if tail > 0 {
		x[0].N++
		x = append(x, api.Node{Kind: api.Tail, N: tail})
	}
	return x
}

// model is a type as the chapter speaks of it: a node, its children by their labels (those of an Arrow by < and >), and its tail (-1 for none).
type model struct {
	node api.Node
	kids map[string]model
	tail int
}

// modelOf is the model of a valid type.
func modelOf(x api.Type) model {
	m := model{x[0], map[string]model{}, -1}
	m.node.Name = ""
	for i, k := range ty.Kids(x, 0) {
		label := x[k].Name
		if x[0].Kind == api.Arrow {
			label = "<>"[i : i+1]
		}
		if x[k].Kind == api.Tail {
			m.tail = x[k].N
			continue
		}
		m.kids[label] = modelOf(ty.Part(x, k))
	}
	return m
}

// typ is the type of a model.
func (m model) typ() api.Type {
	x := api.Type{m.node}
	if m.node.Kind == api.Record || m.node.Kind == api.Union {
		x[0].N = len(m.kids)
	}
	for _, label := range slices.Sorted(maps.Keys(m.kids)) {
		kid := m.kids[label].typ()
		if m.node.Kind != api.Arrow {
			kid[0].Name = label
		}
		x = append(x, kid...)
	}
	if m.tail >= 0 {
		x[0].N++
		x = append(x, api.Node{Kind: api.Tail, N: m.tail})
	}
	return x
}

// put is the chapter's definition of substituting; it also says which errors there are.
func (m model) put(n int, u model, errors map[api.Errno]bool) model {
	if m.node.Kind == api.Var && m.node.N == n {
		return u
	}
	put := model{m.node, map[string]model{}, m.tail}
	for label, kid := range m.kids {
		put.kids[label] = kid.put(n, u, errors)
	}
	if m.tail != n {
		return put
	}
	if m.node.Kind != u.node.Kind {
		errors[api.ErrArg] = true
		return put
	}
	for label, kid := range u.kids {
		if _, ok := put.kids[label]; ok {
			errors[api.ErrExists] = true
		}
		put.kids[label] = kid
	}
	put.tail = u.tail
	return put
}

// ground is the chapter's definition of the type without variables.
func (m model) ground() model {
	g := model{m.node, map[string]model{}, -1}
	for label, kid := range m.kids {
		g.kids[label] = kid.ground()
	}
	if m.node.Kind == api.Var || m.node.Kind == api.Union && len(m.kids) == 0 {
		g.node = api.Node{Kind: api.Unit}
	}
	return g
}

// without is the elements of a other than n, and those of b, in ascending order.
func without(a []int, n int, b []int) []int {
	l := slices.DeleteFunc(slices.Concat(a, b), func(x int) bool { return x == n && !slices.Contains(b, x) })
	slices.Sort(l)
	return slices.Compact(l)
}

// P12.1 (L2) and P12.2: all small types are substituted in all small types as the chapter defines it; and which variables there are then.
func TestEveryPut(t *testing.T) {
	others := small(3)
	for _, x := range small(4) {
		m, vars := modelOf(x), term.Vars(x)
		if !slices.Equal(m.typ(), x) || !ty.Right(x) {
			t.Fatalf("%v", x)
		}
		for _, u := range others {
			v, more := modelOf(u), term.Vars(u)
			for n := 1; n <= 3; n++ {
				errors := map[api.Errno]bool{}
				want := m.put(n, v, errors).typ()
				wanted := api.OK
				if errors[api.ErrArg] {
					wanted, want = api.ErrArg, nil
				} else if errors[api.ErrExists] {
					wanted, want = api.ErrExists, nil
				}
				got, errno := term.Put(x, n, u)
				if errno != wanted || !slices.Equal(got, want) {
					t.Fatalf("%s with %s for %d: %s and %d, want %s and %d", ty.Print(x), ty.Print(u), n, ty.Print(got), errno, ty.Print(want), wanted)
				}
				left := vars
				if slices.Contains(vars, n) {
					left = without(vars, n, more)
				}
				if errno == api.OK && (!slices.Equal(term.Vars(got), left) || !ty.Right(got)) {
					t.Fatalf("%s with %s for %d: %v, want %v", ty.Print(x), ty.Print(u), n, term.Vars(got), left)
				}
			}
		}
	}
}

// P12.1 (L3) and P12.3: all small types without variables are as the chapter defines it; they are plain, and static if they were.
func TestEveryGround(t *testing.T) {
	for _, x := range small(5) {
		got := term.Ground(x)
		if want := modelOf(x).ground().typ(); !slices.Equal(got, want) {
			t.Fatalf("%s: %s, want %s", ty.Print(x), ty.Print(got), ty.Print(want))
		}
		if !ty.Right(got) || !ty.Plain(got) || ty.Static(got) != ty.Static(x) || ty.Plain(x) && !slices.Equal(got, x) {
			t.Fatalf("%s: %s", ty.Print(x), ty.Print(got))
		}
	}
}

// P12.1 (L1): all small types have their variables, and with those that are fresh they have one more for each ?.
func TestEveryFresh(t *testing.T) {
	for _, x := range small(5) {
		var want []int
		for n := range 3 {
			if slices.ContainsFunc(x, func(y api.Node) bool { return y.N == n && (y.Kind == api.Var || y.Kind == api.Tail) }) {
				want = append(want, n)
			}
		}
		if got := term.Vars(x); !slices.Equal(got, want) {
			t.Fatalf("%s: %v, want %v", ty.Print(x), got, want)
		}
		got, next := term.Fresh(x, 7)
		for n := 7; n < next; n++ {
			want = append(want, n)
		}
		if !ty.Right(got) || !ty.Static(got) || !slices.Equal(term.Vars(got), want) || ty.Static(x) != (next == 7) || ty.Static(x) && !slices.Equal(got, x) {
			t.Fatalf("%s: %s and %d", ty.Print(x), ty.Print(got), next)
		}
		for n := 7; n < next; n++ { // putting the ? back, with their labels, makes it what it was
			got, _ = term.Put(got, n, api.Type{{Kind: api.Dyn, N: 3}})
		}
		if !slices.Equal(got, x) {
			t.Fatalf("%s: %s", ty.Print(x), ty.Print(got))
		}
	}
}

// renumbered is the types l, in which what change returns stands for the number of each variable.
func renumbered(l []api.Type, change func(int) int) []api.Type {
	var changed []api.Type
	for _, x := range l {
		x = slices.Clone(x)
		for i := range x {
			if x[i].Kind == api.Var || x[i].Kind == api.Tail {
				x[i].N = change(x[i].N)
			}
		}
		changed = append(changed, x)
	}
	return changed
}

func equal(l, m []api.Type) bool {
	return slices.EqualFunc(l, m, slices.Equal)
}

// P12.1 (L3) and P12.4: canonical numbers are those of the first occurrences, whatever the numbers were.
func TestEveryCanon(t *testing.T) {
	types := slices.DeleteFunc(small(4), func(x api.Type) bool { return len(term.Vars(x)) == 0 })
	changes := []func(int) int{
		func(n int) int { return n },
		func(n int) int { return 3 - n },
		func(n int) int { return 100 * n },
		func(n int) int { return 2 - n },
	}
	for i, x := range types {
		for _, y := range types[i%50*len(types)/50:][:min(50, len(types)/50)] { // each type is tried with some others
			l := []api.Type{x, {{Kind: api.Int}}, y}
			first := map[int]int{}
			for _, n := range slices.Concat(x, y) {
				if n.Kind == api.Var || n.Kind == api.Tail {
					if _, ok := first[n.N]; !ok {
						first[n.N] = len(first) + 1
					}
				}
			}
			want := renumbered(l, func(n int) int { return first[n] })
			for _, change := range changes {
				if got := term.Canon(renumbered(l, change)); !equal(got, want) {
					t.Fatalf("%v: %v, want %v", renumbered(l, change), got, want)
				}
			}
			if again := term.Canon(want); !equal(again, want) {
				t.Fatalf("%v: %v", want, again)
			}
		}
	}
}

// nodes is what short lists are made of that are mostly no types.
func nodes() []api.Node {
	return []api.Node{
		{}, {Kind: api.Int}, {Kind: api.Int, Name: "a"}, {Kind: api.Bool, Name: "b"}, {Kind: api.Int, Name: "A"}, {Kind: api.Arrow}, {Kind: api.Record}, {Kind: api.Record, N: 1}, {Kind: api.Record, N: 2}, {Kind: api.Record, N: -1},
		{Kind: api.Record, N: 1, Name: "a"}, {Kind: api.Union}, {Kind: api.Union, N: 1}, {Kind: api.Union, N: 1 << 62}, {Kind: api.Var, N: 1}, {Kind: api.Var, N: 1, Name: "a"}, {Kind: api.Tail, N: 1}, {Kind: api.Tail, N: 1, Name: "a"}, {Kind: api.Tail, N: 2}, {Kind: api.Tail, N: -1}, {Kind: -1}, {Kind: 10, N: 1},
	}
}

// lists is all lists of up to most of these nodes.
func lists(most int) []api.Type {
	l := []api.Type{nil}
	from := 0
	for range most {
		end := len(l)
		for _, x := range l[from:end] {
			for _, n := range nodes() {
				l = append(l, append(slices.Clone(x), n))
			}
		}
		from = end
	}
	return l
}

// R1: nothing panics, also for what is no type; and Put returns nothing that is not valid.
func TestEveryList(t *testing.T) {
	others := lists(2)
	for _, x := range lists(3) {
		term.Vars(x)
		term.Fresh(x, 1)
		term.Canon([]api.Type{x, nil, x})
		if g := term.Ground(x); !ty.Plain(g) || ty.Static(x) != ty.Static(g) {
			t.Fatalf("%v: %v", x, g)
		}
		for _, u := range others {
			got, errno := term.Put(x, 1, u)
			if errno == api.OK && !ty.Right(got) || errno != api.OK && len(got) != 0 {
				t.Fatalf("%v with %v: %v and %d", x, u, got, errno)
			}
		}
	}
}
