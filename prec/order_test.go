package prec_test

import (
	"slices"
	"testing"

	"leaven/api"
	"leaven/prec"
	"leaven/ty"
)

// types are all plain types with up to most nodes, with these leaves, words and tags.
func types(most int, leaves []int, words, tags []string) []api.Type {
	bySize := make([][]api.Type, most+1)
	for n := 1; n <= most; n++ {
		if n == 1 {
			for _, k := range leaves {
				bySize[1] = append(bySize[1], api.Type{{Kind: k}})
			}
		}
		for i := 1; i < n-1; i++ {
			for _, a := range bySize[i] {
				for _, b := range bySize[n-1-i] {
					bySize[n] = append(bySize[n], ty.Arrow(a, b))
				}
			}
		}
		addRows(bySize, n, api.Record, words)
		addRows(bySize, n, api.Union, tags)
	}
	return slices.Concat(bySize...)
}

// addRows adds the records or the unions with n nodes.
func addRows(bySize [][]api.Type, n, kind int, labels []string) {
	var add func(from, left int, used []string, kids []api.Type)
	add = func(from, left int, used []string, kids []api.Type) {
		if left == 0 {
			if t, e := ty.Row(kind, used, kids); e == api.OK {
				bySize[n] = append(bySize[n], t)
			}
		}
		for i := from; i < len(labels); i++ {
			for size := 1; size <= left; size++ {
				for _, k := range bySize[size] {
					add(i+1, left-size, append(slices.Clone(used), labels[i]), append(slices.Clone(kids), k))
				}
			}
		}
	}
	add(0, n-1, nil, nil)
}

// some are types of all kinds that can be built from ?, int and bool.
func some(most int) []api.Type {
	return types(most, []int{api.Dyn, api.Int, api.Bool}, []string{"a", "b"}, []string{"A", "B"})
}

// few are types that can be built from ? and int.
func few(most int) []api.Type {
	return types(most, []int{api.Dyn, api.Int}, []string{"a", "b"}, []string{"A"})
}

// resited is t with other sites: from the given one on.
func resited(t api.Type, site int) api.Type {
	u := slices.Clone(t)
	for i := range u {
		if u[i].Kind == api.Dyn {
			u[i].N = site + i
		}
	}
	return u
}

// split are the labels and the children of a type.
func split(t api.Type) (labels []string, kids []api.Type) {
	for _, k := range ty.Kids(t, 0) {
		labels, kids = append(labels, t[k].Name), append(kids, ty.Part(t, k))
	}
	return labels, kids
}

// alike are the children of a and b if they are of the same kind, with the same labels.
func alike(a, b api.Type) (labels []string, x, y []api.Type, ok bool) {
	if a[0].Kind != b[0].Kind {
		return nil, nil, nil, false
	}
	labels, x = split(a)
	other, y := split(b)
	return labels, x, y, slices.Equal(labels, other)
}

// below is the chapter's definition of being at least as precise.
func below(a, b api.Type) bool {
	_, x, y, ok := alike(a, b)
	for i := 0; ok && i < len(x); i++ {
		ok = below(x[i], y[i])
	}
	return ok || b[0].Kind == api.Dyn
}

// meet is the chapter's definition of the meet, which is nil if a and b are not consistent.
func meet(a, b api.Type) api.Type {
	switch {
	case b[0].Kind == api.Dyn:
		return a
	case a[0].Kind == api.Dyn:
		return b
	}
	labels, x, y, ok := alike(a, b)
	var kids []api.Type
	for i := range x {
		var m api.Type
		if ok {
			m = meet(x[i], y[i])
		}
		ok = ok && m != nil
		kids = append(kids, m)
	}
	switch {
	case !ok:
		return nil
	case a[0].Kind == api.Arrow:
		return ty.Arrow(kids[0], kids[1])
	case a[0].Kind == api.Record || a[0].Kind == api.Union:
		t, _ := ty.Row(a[0].Kind, labels, kids)
		return t
	}
	return a
}

// P7.1 (G1): all pairs of small types, with the chapter's definitions.
func TestSmallTypes(t *testing.T) {
	l := some(4)
	if len(l) < 900 {
		t.Fatal(len(l))
	}
	others := make([]api.Type, len(l))
	for i := range l {
		l[i], others[i] = resited(l[i], 1), resited(l[i], 51)
	}
	for _, a := range l {
		for _, b := range others {
			m, e := prec.Meet(a, b)
			want := meet(a, b)
			if !slices.Equal(m, want) || e != api.OK && e != api.ErrType || (e == api.OK) != (want != nil) || prec.Agree(a, b) != (want != nil) || prec.Below(a, b) != below(a, b) {
				t.Fatalf("%s, %s: %s %d %v %v, want %s %v", marked(a), marked(b), marked(m), e, prec.Agree(a, b), prec.Below(a, b), marked(want), below(a, b))
			}
		}
	}
}

// P7.1 (G2): all small types.
func TestPartsOfSmallTypes(t *testing.T) {
	for _, x := range some(4) {
		x = resited(x, 1)
		unknown := x[0].Kind == api.Dyn
		labels, kids := split(x)
		a, b, e := prec.Call(x)
		if isArrow := x[0].Kind == api.Arrow; (e == api.OK) != (isArrow || unknown) || isArrow && (!slices.Equal(a, kids[0]) || !slices.Equal(b, kids[1])) || unknown && (marked(a) != "?" || marked(b) != "?") {
			t.Fatalf("%s: %s %s %d", marked(x), marked(a), marked(b), e)
		}
		for _, label := range []string{"a", "b", "c", "A", "B", "C"} {
			y, e := prec.Field(x, label)
			i := slices.Index(labels, label)
			if (e == api.OK) != (i >= 0 || unknown) || i >= 0 && !slices.Equal(y, kids[i]) || unknown && marked(y) != "?" {
				t.Fatalf("%s, %s: %s %d", marked(x), label, marked(y), e)
			}
		}
		tags, e := prec.Tags(x)
		if isUnion := x[0].Kind == api.Union; (e == api.OK) != (isUnion || unknown) || isUnion && !slices.Equal(tags, labels) || !isUnion && len(tags) > 0 {
			t.Fatalf("%s: %v %d", marked(x), tags, e)
		}
	}
}

// P7.2: being at least as precise is reflexive, antisymmetric and transitive, up to sites.
func TestOrder(t *testing.T) {
	l := some(3)
	for _, a := range l {
		for _, b := range l {
			if same := ty.Same(a, b); prec.Below(resited(a, 1), resited(b, 51)) && prec.Below(b, a) != same || same && !prec.Below(resited(a, 1), b) {
				t.Fatalf("%s, %s", marked(a), marked(b))
			}
			if !prec.Below(a, b) {
				continue
			}
			for _, c := range l {
				if prec.Below(b, c) && !prec.Below(a, c) {
					t.Fatalf("%s, %s, %s", marked(a), marked(b), marked(c))
				}
			}
		}
	}
}

// P7.3: two types are consistent if and only if some type is at least as precise as both, and no such type is less precise than the meet, or not comparable with it.
func TestMeetIsLeastPrecise(t *testing.T) {
	l, candidates := few(4), few(5)
	belows := func(a api.Type) (at []bool) {
		for _, c := range candidates {
			at = append(at, prec.Below(c, a))
		}
		return at
	}
	byType := make([][]bool, len(l))
	for i := range l {
		byType[i] = belows(l[i])
	}
	for i, a := range l {
		for j, b := range l {
			m, e := prec.Meet(a, b)
			if (e == api.OK) != prec.Agree(a, b) || e == api.OK && (!prec.Below(m, a) || !prec.Below(m, b)) {
				t.Fatalf("%s, %s: %s %d", marked(a), marked(b), marked(m), e)
			}
			for k, c := range candidates {
				if byType[i][k] && byType[j][k] && (e != api.OK || !prec.Below(c, m)) {
					t.Fatalf("%s, %s: %s %d, but %s", marked(a), marked(b), marked(m), e, marked(c))
				}
			}
		}
	}
}

// P7.3: the order of types, and in which order meets are taken, does not matter, up to sites.
func TestMeetsInAnyOrder(t *testing.T) {
	l := few(3)
	for _, a := range l {
		for _, b := range l {
			ab, e := prec.Meet(a, b)
			ba, f := prec.Meet(b, a)
			if e != f || !ty.Same(ab, ba) {
				t.Fatalf("%s, %s: %s %d, %s %d", marked(a), marked(b), marked(ab), e, marked(ba), f)
			}
			if e != api.OK {
				continue
			}
			for _, c := range l {
				left, e := prec.Meet(ab, c)
				bc, f := prec.Meet(b, c)
				right, g := prec.Meet(a, bc)
				if f != api.OK {
					g = f
				}
				if e != g || !ty.Same(left, right) && e == api.OK {
					t.Fatalf("%s, %s, %s: %s %d, %s %d", marked(a), marked(b), marked(c), marked(left), e, marked(right), g)
				}
			}
		}
	}
}

// P7.4: a less precise type is consistent with everything with which the more precise one is.
func TestMonotone(t *testing.T) {
	l := some(3)
	for _, a := range l {
		for _, less := range l {
			if !prec.Below(a, less) {
				continue
			}
			for _, b := range l {
				if prec.Agree(a, b) && (!prec.Agree(less, b) || !prec.Agree(b, less)) {
					t.Fatalf("%s, %s, %s", marked(a), marked(less), marked(b))
				}
			}
		}
	}
}
