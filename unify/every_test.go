package unify_test

import (
	"maps"
	"slices"
	"strings"
	"testing"

	"leaven/api"
	"leaven/term"
	"leaven/ty"
	"leaven/unify"
)

// small is all types of up to most nodes that are made of ?, int, the variables 1 and 2, arrows, and rows with two labels.
func small(most int) []api.Type {
	bySize := make([][]api.Type, most+1)
	bySize[1] = forms("?; int; '1; '2; {}")
	for n := 2; n <= most; n++ {
		for i := 1; i <= n-2; i++ {
			for _, x := range bySize[i] {
				for _, y := range bySize[n-1-i] {
					bySize[n] = append(bySize[n], ty.Arrow(x, y), model{kind: api.Record, kids: map[string]model{"a": modelOf(x), "b": modelOf(y)}, tail: -1}.typ())
				}
			}
		}
		for kind, labels := range map[int]string{api.Record: "ab", api.Union: "AB"} {
			for tail := range 3 { // 0 is none
				row := model{kind: kind, tail: tail}
				left := n - 2
				if tail == 0 {
					row.tail, left = -1, n-1
				}
				if left == 0 {
					bySize[n] = append(bySize[n], row.typ())
					continue
				}
				for _, x := range bySize[left] {
					for i := range labels {
						row.kids = map[string]model{labels[i : i+1]: modelOf(x)}
						bySize[n] = append(bySize[n], row.typ())
					}
				}
			}
		}
		slices.SortFunc(bySize[n], func(x, y api.Type) int { return strings.Compare(ty.Print(x), ty.Print(y)) })
	}
	return slices.Concat(bySize...)
}

// model is a type as the chapters speak of it: a kind, the number of a Var, children by their labels (those of an Arrow are < and >), and a tail (-1 for none).
// It may also be a union without children, which is what a tail of a union may stand for.
type model struct {
	kind, n int
	kids    map[string]model
	tail    int
}

// modelOf is the model of a valid type.
func modelOf(x api.Type) model {
	m := model{x[0].Kind, 0, map[string]model{}, -1}
	if m.kind == api.Var {
		m.n = x[0].N
	}
	for i, k := range ty.Kids(x, 0) {
		switch {
		case x[0].Kind == api.Arrow:
			m.kids["<>"[i:i+1]] = modelOf(ty.Part(x, k))
		case x[k].Kind == api.Tail:
			m.tail = x[k].N
		default:
			m.kids[x[k].Name] = modelOf(ty.Part(x, k))
		}
	}
	return m
}

// typ is the type of a model.
func (m model) typ() api.Type {
	x := api.Type{{Kind: m.kind, N: m.n}}
	if m.isRow() {
		x[0].N = len(m.kids)
	}
	for _, label := range slices.Sorted(maps.Keys(m.kids)) {
		kid := m.kids[label].typ()
		if m.isRow() {
			kid[0].Name = label
		}
		x = append(x, kid...)
	}
	if m.isRow() && m.tail >= 0 {
		x[0].N++
		x = append(x, api.Node{Kind: api.Tail, N: m.tail})
	}
	return x
}

func (m model) isRow() bool {
	return m.kind == api.Record || m.kind == api.Union
}

// put is what layer 12 says: m, in which the variables are replaced; and whether there is such a type.
func (m model) put(types map[int]model) (model, bool) {
	if m.kind == api.Var {
		u, ok := types[m.n]
		return u, ok
	}
	put := model{m.kind, m.n, map[string]model{}, -1}
	right := true
	for label, kid := range m.kids {
		u, ok := kid.put(types)
		put.kids[label] = u
		right = right && ok
	}
	if !m.isRow() || m.tail < 0 {
		return put, right
	}
	u := types[m.tail]
	for label, kid := range u.kids {
		if _, ok := put.kids[label]; ok {
			right = false
		}
		put.kids[label] = kid
	}
	return put, right && u.kind == m.kind
}

// agrees is what layer 7 says of two plain types.
func (m model) agrees(o model) bool {
	if m.kind == api.Dyn || o.kind == api.Dyn {
		return true
	}
	if m.kind != o.kind || len(m.kids) != len(o.kids) {
		return false
	}
	for label, kid := range m.kids {
		if u, ok := o.kids[label]; !ok || !kid.agrees(u) {
			return false
		}
	}
	return true
}

// ends is the kinds of the rows that end with tails of this number.
func ends(n int, l ...api.Type) []int {
	var kinds []int
	for _, x := range l {
		for i := range x {
			for _, k := range ty.Kids(x, i) {
				if x[k].Kind == api.Tail && x[k].N == n {
					kinds = append(kinds, x[i].Kind)
				}
			}
		}
	}
	slices.Sort(kinds)
	return slices.Compact(kinds)
}

// variable is a type that is what n stands for: a Var, or a row of this kind.
func variable(n int, kinds []int) api.Type {
	if len(kinds) == 0 {
		return api.Type{{Kind: api.Var, N: n}}
	}
	return api.Type{{Kind: kinds[0], N: 1}, {Kind: api.Tail, N: n}}
}

// choices is all ways to give types to the variables 1 and 2.
func choices(l []api.Type) []map[int]model {
	ms := []model{{kind: api.Union, tail: -1}} // which only tails stand for
	for _, x := range l {
		ms = append(ms, modelOf(x))
	}
	var all []map[int]model
	for _, x := range ms {
		for _, y := range ms {
			all = append(all, map[int]model{1: x, 2: y})
		}
	}
	return all
}

// sample is a type, and what it is with each of the choices.
type sample struct {
	typ api.Type
	is  []model
	ok  []bool
}

func sampleOf(x api.Type, choices []map[int]model) sample {
	p := sample{typ: x}
	for _, c := range choices {
		m, ok := modelOf(x).put(c)
		p.is, p.ok = append(p.is, m), append(p.ok, ok)
	}
	return p
}

// agrees reports whether both types are consistent with choice i.
func (p sample) agrees(o sample, i int) bool {
	return p.ok[i] && o.ok[i] && p.is[i].agrees(o.is[i])
}

// P13.1 to P13.3: pairs of small types are made consistent if and only if there are types for their variables with which they are consistent; some of these are told, and all of these are still possible.
func TestEveryPair(t *testing.T) {
	all := choices(forms("int; {}; {a: int}; {b: int}; {a: int, b: int}; {a: {}}; [A: int]; [B: int]; [A: int | B: {}]; int -> int"))
	var every []sample
	for _, x := range small(4) {
		every = append(every, sampleOf(x, all))
	}
	agreed, failed := 0, 0
	for i, a := range every {
		others := every[:min(60, len(every))]
		for k := range 60 { // and some larger ones, which are others for each type
			others = append(others[:len(others):len(others)], every[(i*131+k*977)%len(every)])
		}
		for _, b := range others {
			if look(t, all, [][2]sample{{a, b}}) {
				agreed++
			} else {
				failed++
			}
		}
	}
	if agreed < 10000 || failed < 10000 {
		t.Error(agreed, failed)
	}
}

// P13.1 to P13.3: the same of two pairs, of which the second one finds something known.
func TestEveryTwoPairs(t *testing.T) {
	all := choices(forms("int; {}; {a: int}; {b: int}; {a: int, b: int}; [A: int]; int -> int"))
	var every []sample
	for _, x := range small(3) {
		every = append(every, sampleOf(x, all))
	}
	var l [][2]sample // the pairs that are consistent if nothing else is known
	for _, a := range every {
		for _, b := range every {
			if unify.New(3).Agree(a.typ, b.typ) == api.OK {
				l = append(l, [2]sample{a, b})
			}
		}
	}
	agreed, failed := 0, 0
	for i, p := range l {
		for k := range 12 {
			if look(t, all, [][2]sample{p, l[(i*113+k*977)%len(l)]}) {
				agreed++
			} else {
				failed++
			}
		}
	}
	if agreed < 10000 || failed < 10000 {
		t.Error(agreed, failed)
	}
}

// look makes pairs of small types consistent, and holds what comes of it against what the choices say that their variables could stand for.
func look(t *testing.T, all []map[int]model, l [][2]sample) bool {
	t.Helper()
	var passed []api.Type
	solve := func() (*unify.Solver, api.Errno) {
		s := unify.New(3)
		for _, p := range l {
			passed = append(passed, p[0].typ, p[1].typ)
			if errno := s.Agree(p[0].typ, p[1].typ); errno != api.OK {
				return s, errno
			}
		}
		return s, api.OK
	}
	s, errno := solve()
	v := []api.Type{nil, variable(1, ends(1, passed...)), variable(2, ends(2, passed...))}
	var known []api.Type
	for _, x := range passed {
		known = append(known, s.Known(x))
	}
	// A tail of rows of both kinds can't stand for anything, but this does not matter as long as it isn't bound to a row.
	odd := len(ends(1, known...)) > 1 || len(ends(2, known...)) > 1
	if errno != api.OK && errno != api.ErrType || errno == api.OK && !odd && !isAnswer(s, v, l) {
		t.Fatalf("%v: %d, but %s and %s", passed, errno, ty.Print(s.Known(v[1])), ty.Print(s.Known(v[2])))
	}
	for i, c := range all {
		if slices.ContainsFunc(l, func(p [2]sample) bool { return !p[0].agrees(p[1], i) }) {
			continue
		}
		if errno != api.OK {
			t.Fatalf("%v: %d, but they are consistent with %v", passed, errno, c)
		}
		s, _ := solve()
		for n := 1; n <= 2; n++ {
			if x := c[n].typ(); s.Agree(v[n], x) != api.OK || !slices.Equal(s.Known(v[n]), x) {
				t.Fatalf("%v: but not with %v", passed, c)
			}
		}
	}
	return errno == api.OK
}

// isAnswer reports whether pairs are consistent with what is known of the variables v.
func isAnswer(s *unify.Solver, v []api.Type, l [][2]sample) bool {
	known := []api.Type{s.Known(v[1]), s.Known(v[2])}
	c := map[int]model{1: modelOf(known[0]).ground(known...), 2: modelOf(known[1]).ground(known...)}
	return !slices.ContainsFunc(l, func(p [2]sample) bool {
		x, y := sampleOf(p[0].typ, []map[int]model{c}), sampleOf(p[1].typ, []map[int]model{c})
		return !x.agrees(y, 0)
	})
}

// ground is m without variables: Vars are units, or rows without children if tails in l have the same number.
func (m model) ground(l ...api.Type) model {
	if m.kind == api.Var {
		for _, kind := range ends(m.n, l...) {
			return model{kind: kind, tail: -1}
		}
		return model{kind: api.Unit}
	}
	g := model{m.kind, 0, map[string]model{}, -1}
	for label, kid := range m.kids {
		g.kids[label] = kid.ground(l...)
	}
	return g
}

// P13.1 (M2) and P13.2: what a small type is made consistent with in a Var is the same type with variables in place of ?.
func TestEveryVar(t *testing.T) {
	for _, x := range small(5) {
		s := unify.New(3)
		errno := s.Agree(of("'0"), x)
		fresh, _ := term.Fresh(x, 100)
		if x[0].Kind == api.Dyn || x[0].Kind == api.Var {
			fresh = of("'0") // nothing needs to be done, or both are the same from now on
		}
		if got := known(s, 3, of("'0")); errno != api.OK || got[0] != ty.Print(fresh) {
			t.Fatalf("%s: %d and %s", ty.Print(x), errno, got)
		}
		if errno := s.Agree(x, of("'0")); errno != api.OK {
			t.Fatalf("%s: %d", ty.Print(x), errno)
		}
		for _, n := range term.Vars(x) {
			if len(ends(n, x)) > 0 || slices.Contains(x, api.Node{Kind: api.Var, N: n}) && len(x) == 1 {
				continue
			}
			if s := unify.New(3); len(x) > 1 && s.Agree(variable(n, nil), x) != api.ErrType {
				t.Fatalf("'%d ~ %s", n, ty.Print(x))
			}
		}
		for _, y := range forms("?; '3") {
			s := unify.New(4)
			if s.Agree(y, x) != api.OK || s.Agree(x, y) != api.OK || s.Agree(x, x) != api.OK || !slices.Equal(s.Known(x), x) {
				t.Fatalf("%s ~ %s: %s", ty.Print(y), ty.Print(x), ty.Print(s.Known(x)))
			}
		}
	}
}
