package unify

import (
	"slices"
	"strings"

	"leaven/api"
)

// none is the number of the Tail of a row that has none.
const none = -1

// tree is a type. What its variables stand for is no part of it.
type tree struct {
	kind   int
	n      int   // of a row the number of its Tail, or none; of all other trees that of the node
	kids   []kid // without the Tail
	static bool  // there is no ? in it
	size   size  // that of its resolved form, as it was in the last round in which it was asked for
	round  int
}

// kid is a child, and its label, which is empty in an Arrow.
type kid struct {
	label string
	tree  *tree
}

// isRow reports whether this is the kind of a row, which is a record or a union.
func isRow(kind int) bool {
	return kind == api.Record || kind == api.Union
}

// isOpen reports whether t ends with a Tail.
func (t *tree) isOpen() bool {
	return isRow(t.kind) && t.n != none
}

// node returns the outermost node of t, with this label.
func (t *tree) node(label string) api.Node {
	n := t.n
	if isRow(t.kind) {
		n = len(t.kids)
	}
	if t.isOpen() {
		n++
	}
	return api.Node{Kind: t.kind, Name: label, N: n}
}

// treeOf returns the tree of t, or nil if t is not one tree with labels in ascending order. Types that are too large or too deep to be valid have trees, too.
func treeOf(t api.Type) *tree {
	at, right := 0, len(t) > 0
	var read func() *tree
	read = func() *tree {
		x := t[at]
		at++
		r := &tree{kind: x.Kind, n: x.N}
		if isRow(x.Kind) {
			r.n = none
		}
		right = right && isNode(x)
		label := ""
		for k := 0; k < many(x) && right; k++ {
			right = at < len(t) && mayStand(x, k, label, t[at])
			switch {
			case !right:
			case t[at].Kind == api.Tail:
				r.n = t[at].N
				at++
			default:
				label = t[at].Name
				r.kids = append(r.kids, kid{label, read()})
			}
		}
		return r
	}
	if !right {
		return nil
	}
	if r := read(); right && at == len(t) {
		return r
	}
	return nil
}

// many returns how many children x has.
func many(x api.Node) int {
	switch x.Kind {
	case api.Arrow:
		return 2
	case api.Record, api.Union:
		return x.N
	}
	return 0
}

// isNode reports whether x may be a node of a tree, which has Tails elsewhere.
func isNode(x api.Node) bool {
	return api.Dyn <= x.Kind && x.Kind <= api.Var && x.N >= 0
}

// mayStand reports whether y may be child k of x, after a child with the label before ("" if k is 0).
func mayStand(x api.Node, k int, before string, y api.Node) bool {
	switch {
	case !isRow(x.Kind):
		return y.Kind != api.Tail && y.Name == ""
	case y.Kind == api.Tail:
		return k == x.N-1 && y.N >= 0 && y.Name == ""
	}
	return before < y.Name
}

// joined returns the children of both lists in order, and whether no two of them have the same label.
func joined(a, b []kid) ([]kid, bool) {
	both, onlyA, onlyB := split(a, b)
	all := slices.Concat(onlyA, onlyB)
	slices.SortFunc(all, func(x, y kid) int { return strings.Compare(x.label, y.label) })
	return all, len(both) == 0
}

// split returns the pairs of children of a and b with the same label, and the other children.
func split(a, b []kid) (both []pair, onlyA, onlyB []kid) {
	for len(a) > 0 && len(b) > 0 {
		switch strings.Compare(a[0].label, b[0].label) {
		case -1:
			onlyA, a = append(onlyA, a[0]), a[1:]
		case 1:
			onlyB, b = append(onlyB, b[0]), b[1:]
		default:
			both, a, b = append(both, pair{a[0].tree, b[0].tree}), a[1:], b[1:]
		}
	}
	return both, append(onlyA, a...), append(onlyB, b...)
}

// size is what the limits of types are about, for the ground form of a type: a Var is one node there, and a Tail is none.
type size struct {
	nodes, deep, wide int  // wide is how many children one node has at most
	open              bool // there are variables, so that it may still grow
}

// isValid reports whether a valid type may have this size.
func (z size) isValid() bool {
	return z.nodes <= api.MaxNodes && z.deep <= api.MaxDeep && z.wide <= maxKids
}

// sizes returns a function that returns the size of the resolved form of a tree, and whether it has one, which a tree that contains itself has not.
// It goes through parts that trees share only once, so the bindings have to stay as they are while it is used.
func (s *Solver) sizes() func(*tree) (size, bool) {
	s.round++
	var sizeOf func(*tree) (size, bool)
	sizeOf = func(t *tree) (size, bool) {
		t = s.head(t)
		if t.round == s.round || t.round > 0 && !t.size.open { // without variables it remains what it is
			return t.size, t.size.nodes > 0
		}
		t.round, t.size = s.round, size{} // it has no nodes for as long as its children are gone through
		s.widen(t)
		z := size{nodes: 1, wide: len(t.kids), open: t.kind == api.Var || t.isOpen()}
		for _, k := range t.kids {
			y, ok := sizeOf(k.tree)
			if !ok {
				return size{}, false
			}
			z.nodes = min(z.nodes+y.nodes, maxKnown+1) // the sizes of trees that share parts grow exponentially
			z.deep, z.wide, z.open = max(z.deep, y.deep), max(z.wide, y.wide), z.open || y.open
		}
		z.deep++
		t.size = z
		return z, true
	}
	return sizeOf
}

// check reports whether no type contains itself, and whether what the variables below first stand for is valid.
func (s *Solver) check() bool {
	if len(s.bound) == 0 {
		return true
	}
	sizeOf := s.sizes()
	for _, n := range s.bound {
		if _, ok := sizeOf(s.bindings[n]); !ok {
			return false
		}
		if n < s.first {
			s.low = append(s.low, n)
		}
	}
	s.bound = nil
	valid := true
	s.low = slices.DeleteFunc(s.low, func(n int) bool {
		z, _ := sizeOf(s.bindings[n])
		valid = valid && z.isValid()
		return !z.open
	})
	return valid
}
