package unify_test

import (
	"fmt"
	"math/rand/v2"
	"slices"
	"strings"
	"testing"

	"leaven/api"
	"leaven/prec"
	"leaven/term"
	"leaven/ty"
	"leaven/unify"
)

// maker makes types by chance, always the same ones.
type maker struct {
	*rand.Rand
	static map[int]model // static types for some variables; which are Vars, and tails of records and of unions
	vars   []int
	tails  map[int][]int
}

// any is a static type of at most this depth, which may contain those of the variables.
func (m maker) any(depth int) model {
	switch k := m.IntN(9); {
	case depth == 1 || k == 0:
		return model{kind: []int{api.Int, api.Bool, api.Unit}[m.IntN(3)], tail: -1}
	case k < 3:
		return m.static[m.vars[m.IntN(len(m.vars))]]
	case k < 5:
		return model{api.Arrow, 0, map[string]model{"<": m.any(depth - 1), ">": m.any(depth - 1)}, -1}
	case k < 8:
		return m.row(api.Record, "abc", depth)
	}
	return m.row(api.Union, "ABC", depth)
}

// row is a row with some of these labels, and often with the children for which a tail stands.
func (m maker) row(kind int, labels string, depth int) model {
	row := model{kind, 0, map[string]model{}, -1}
	if m.IntN(3) > 0 {
		for label, kid := range m.static[m.tails[kind][m.IntN(len(m.tails[kind]))]].kids {
			row.kids[label] = kid
		}
	}
	for i := range labels {
		if _, ok := row.kids[labels[i:i+1]]; !ok && m.IntN(2) == 0 {
			row.kids[labels[i:i+1]] = m.any(depth - 1)
		}
	}
	if len(row.kids) == 0 && kind == api.Union {
		row.kids["A"] = model{kind: api.Int, tail: -1}
	}
	return row
}

// less is a type that is consistent with x if the variables have their static types: parts of it are ? or variables.
func (m maker) less(x model) model {
	if m.IntN(8) == 0 {
		return model{kind: api.Dyn, tail: -1}
	}
	if m.IntN(2) == 0 {
		for _, i := range m.Perm(len(m.vars)) {
			if n := m.vars[i]; slices.Equal(m.static[n].typ(), x.typ()) {
				return model{api.Var, n, nil, -1}
			}
		}
	}
	y := model{x.kind, x.n, map[string]model{}, -1}
	for _, label := range labelsOf(x) {
		y.kids[label] = x.kids[label]
	}
	if m.IntN(4) > 0 {
		m.cut(&y)
	}
	for _, label := range labelsOf(y) {
		y.kids[label] = m.less(y.kids[label])
	}
	return y
}

// cut replaces children of a row by a tail that stands for them, if there is one.
func (m maker) cut(row *model) {
	for _, n := range m.tails[row.kind] {
		u := m.static[n]
		if u.kind != row.kind || m.IntN(2) == 0 || slices.ContainsFunc(labelsOf(u), func(s string) bool {
			kid, ok := row.kids[s]
			return !ok || !slices.Equal(kid.typ(), u.kids[s].typ())
		}) {
			continue
		}
		for _, label := range labelsOf(u) {
			delete(row.kids, label)
		}
		row.tail = n
		return
	}
}

func labelsOf(m model) []string {
	var l []string
	for _, label := range []string{"<", ">", "a", "b", "c", "A", "B", "C"} {
		if _, ok := m.kids[label]; ok {
			l = append(l, label)
		}
	}
	return l
}

// newMaker is a maker with types for the variables below 8. The numbers of the Vars are below 4; mixed says that there are tails with the same numbers.
func newMaker(seed uint64, mixed bool) maker {
	m := maker{rand.New(rand.NewPCG(seed, 13)), map[int]model{}, []int{0, 1, 2, 3}, map[int][]int{api.Record: {4, 5, 6}, api.Union: {7}}}
	for n := range 8 {
		m.static[n] = model{kind: api.Int, tail: -1}
	}
	for n := range 4 {
		m.static[n] = m.any(3)
	}
	for n := 4; n < 7; n++ {
		m.static[n] = m.row(api.Record, "abc", 2)
	}
	m.static[7] = m.row(api.Union, "ABC", 2)
	for n := 0; n < 4 && mixed; n++ {
		if kind := m.static[n].kind; m.static[n].isRow() {
			m.tails[kind] = append([]int{n}, m.tails[kind]...)
		}
	}
	return m
}

// pairs is pairs of types that are consistent with the static types.
func (m maker) pairs(n int) [][2]api.Type {
	var l [][2]api.Type
	for range n {
		x := m.any(4)
		l = append(l, [2]api.Type{m.less(x).typ(), m.less(x).typ()})
	}
	return l
}

// all is what the variables below 8 are known as.
func (m maker) all() []api.Type {
	var l []api.Type
	for n := range 8 {
		switch {
		case n < 4:
			l = append(l, variable(n, nil))
		case n < 7:
			l = append(l, variable(n, []int{api.Record}))
		default:
			l = append(l, variable(n, []int{api.Union}))
		}
	}
	return l
}

func text(l [][2]api.Type) string {
	var b strings.Builder
	for _, p := range l {
		fmt.Fprintf(&b, "%s ~ %s; ", ty.Print(p[0]), ty.Print(p[1]))
	}
	return b.String()
}

// lookConsistent holds what is known of pairs against each other.
func lookConsistent(t *testing.T, s *unify.Solver, l [][2]api.Type) {
	t.Helper()
	for _, p := range l {
		a, b := s.Known(p[0]), s.Known(p[1])
		if !ty.Right(a) || !ty.Right(b) || !prec.Agree(pattern(a), pattern(b)) {
			t.Fatalf("%s%s and %s", text(l), ty.Print(a), ty.Print(b))
		}
	}
}

// P13.2 and P13.3: pairs that are consistent with static types for all variables are made consistent, and these types are still possible.
func TestPossible(t *testing.T) {
	bound := 0
	for seed := range uint64(8000) {
		m := newMaker(seed, seed%2 == 0)
		l := m.pairs(1 + int(seed%12))
		s, errno := solved(8, l)
		if errno != api.OK {
			t.Fatalf("%s%d", text(l), errno)
		}
		lookConsistent(t, s, l)
		for n, x := range m.all() {
			if got := s.Known(x); !slices.Equal(got, x) {
				bound++
			}
			if x := variable(n, ends(n, x)); s.Agree(x, m.static[n].typ()) != api.OK {
				t.Fatalf("%s%s is no %s", text(l), ty.Print(x), ty.Print(m.static[n].typ()))
			}
		}
		for _, p := range l {
			if s.Agree(p[0], p[1]) != api.OK {
				t.Fatalf("%s ~ %s", ty.Print(p[0]), ty.Print(p[1]))
			}
		}
	}
	if bound < 10000 {
		t.Error(bound)
	}
}

// P13.2 and P13.4: the order in which pairs are passed does not matter, nor which of two types is the first one.
func TestOrder(t *testing.T) {
	agreed, failed := 0, 0
	for seed := range uint64(8000) {
		m := newMaker(seed, false)
		l := m.pairs(2 + int(seed%5))
		if seed%3 == 0 { // one more, which is often not consistent with the others
			l = append(l, [2]api.Type{m.less(m.any(3)).typ(), m.less(m.any(3)).typ()})
		}
		s, want := solved(8, l)
		forms := known(s, 8, m.all()...)
		for range 6 {
			var other [][2]api.Type
			for _, i := range m.Perm(len(l)) {
				k := m.IntN(2)
				other = append(other, [2]api.Type{l[i][k], l[i][1-k]})
			}
			s, errno := solved(8, other)
			if errno != want {
				t.Fatalf("%s%d, but\n%s%d", text(l), want, text(other), errno)
			}
			if got := known(s, 8, m.all()...); want == api.OK && !slices.Equal(got, forms) {
				t.Fatalf("%s%v, but\n%s%v", text(l), forms, text(other), got)
			}
		}
		if want == api.OK {
			lookConsistent(t, s, l)
			agreed++
		} else {
			failed++
		}
	}
	if agreed < 1000 || failed < 1000 {
		t.Error(agreed, failed)
	}
}

// P13.1: what one solver tells of each variable makes another one know the same.
func TestTold(t *testing.T) {
	for seed := range uint64(2000) {
		m := newMaker(seed, false)
		l := m.pairs(6)
		s, _ := solved(8, l)
		next := 8
		for _, x := range m.all() {
			for _, n := range term.Vars(s.Known(x)) {
				next = max(next, n+1)
			}
		}
		r := unify.New(next)
		for _, x := range m.all() {
			if errno := r.Agree(x, s.Known(x)); errno != api.OK {
				t.Fatalf("%s%s ~ %s: %d", text(l), ty.Print(x), ty.Print(s.Known(x)), errno)
			}
		}
		if a, b := term.Canon(knownAll(s, m.all())), term.Canon(knownAll(r, m.all())); !slices.EqualFunc(a, b, slices.Equal) {
			t.Fatalf("%s%v, but %v", text(l), a, b)
		}
	}
}

func knownAll(s *unify.Solver, l []api.Type) []api.Type {
	var all []api.Type
	for _, x := range l {
		all = append(all, s.Known(x))
	}
	return all
}
