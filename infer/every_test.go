package infer_test

import (
	"slices"
	"strings"
	"testing"

	"leaven/api"
	"leaven/assign"
	"leaven/check"
	"leaven/infer"
	"leaven/parse"
	"leaven/ty"
)

// fill is a form in which each # is replaced by one of the texts l, in order.
func fill(form string, l ...string) string {
	for _, s := range l {
		form = strings.Replace(form, "#", s, 1)
	}
	return form
}

// small are the forms that expressions have, with leaves in them, in all ways.
func small() []string {
	leaves := []string{"x", "y", "a!d", "a!u", "1", "true"}
	var l []string
	for _, x := range leaves {
		for _, form := range []string{"#.a", "[A = #]", "[B = #: [A: int | B: ?]]", "(#: ?)", "(#: int -> ?)", "(#: {a: ?, b: int})", "(#: [A: ?])", "(fun (z) -> #)", "(fun (z) -> # + z)", "(case # of A z -> z end)", "{a = #}"} {
			l = append(l, fill(form, x))
		}
		for _, y := range leaves {
			for _, form := range []string{"(# #)", "(# + #)", "(# < #)", "(# && #)", "(let z = # in #)", "(let z: int = # in z # z)", "(rec f (z) = # in #)", "(rec f (z) = # z in f #)", "{b = #, a = #}", "(case # of A z -> # | B z -> z end)", "(case # of B z -> z + 1 | A z -> # end)"} {
				l = append(l, fill(form, x, y))
			}
			for _, z := range leaves {
				l = append(l, fill("(if # then # else #)", x, y, z), fill("(case # of A z -> # | B z -> # end)", x, y, z))
			}
		}
	}
	return l
}

// large are forms with some of the small ones in them.
func large(l []string) []string {
	var out []string
	for i, s := range l {
		other := l[(i*7+11)%len(l)]
		for k, form := range []string{"(# #)", "(# + #)", "#.a < #", "(if x then # else #)", "(let y = # in #)", "(rec x (y) = # in #)", "(case # of A x -> # | B y -> x end)", "{a = #, b = #}.a", "(fun (x) -> #) #", "[A = (#) #]", "((#: ?): ? -> int) #", "{b = x y, a = #}.b + #"} {
			if (i+k)%20 == 0 {
				out = append(out, fill(form, s, other), fill(form, "y", s), fill(form, s, "x.a"))
			}
		}
	}
	return out
}

// samples are programs of two modules, and the sites of each of them that are of interest.
func samples(t *testing.T, visit func(p []api.Module, sites []int)) {
	t.Helper()
	const a = "def d: ? = 1; def u: [A: int | B: ?] = [A = 1: [A: int | B: ?]];"
	forms := small()
	for i, e := range slices.Concat(forms, large(forms)) {
		head := [...]string{"def m: ? = fun (x) -> fun (y) -> ", "def m = fun (x) -> fun (y: int -> ?) -> ", "def m: ? -> ? = fun (x: {a: ?, b: int}) -> fun (y) -> "}[i%3]
		p, n := program(t, "a", a, "m", "import a; "+head+e+"; def w = m;")
		sites := []int{1}
		for s := 4; s < min(n, 9); s++ {
			sites = append(sites, s)
		}
		visit(p, append(sites, n))
	}
}

// subsets are all subsets of a set.
func subsets(set []int) [][]int {
	l := [][]int{nil}
	for _, n := range set {
		for _, s := range l {
			l = append(l, append(slices.Clone(s), n))
		}
	}
	return l
}

// hasTypes tells whether a program has types.
func hasTypes(p []api.Module) bool {
	_, _, _, errno := check.Program(p)
	return errno == api.OK
}

// set is the sites of an assignment.
func set(l []api.Choice) []int {
	var s []int
	for _, c := range l {
		s = append(s, c.Site)
	}
	return s
}

// P14.1 (N1), P14.2, P14.4: all subsets of the sites of many programs; the assignments are those that the chapter's words yield.
func TestEvery(t *testing.T) {
	count := map[api.Errno]int{}
	samples(t, func(p []api.Module, sites []int) {
		all := subsets(sites)
		if !hasTypes(p) { // so that no set is feasible
			all = all[:2]
		}
		feasible := map[int]bool{} // by the sum of the powers of two of the indices in sites
		for mask, s := range all {
			l, errno := infer.Solve(p, s)
			count[errno]++
			want, wantErrno := byWords(p, s)
			if told(l) != told(want) || errno != wantErrno || infer.Feasible(p, s) != (errno == api.OK) {
				t.Fatalf("%s %v: %s %d, want %s %d", parse.Print(p[1]), s, told(l), errno, told(want), wantErrno)
			}
			feasible[mask] = errno == api.OK
			if errno == api.OK && (!assign.Right(l) || !slices.Equal(set(l), s) || !hasTypes(assign.Program(p, l))) {
				t.Fatalf("%s %v: %s", parse.Print(p[1]), s, told(l))
			}
			for bit := 1; bit <= mask; bit *= 2 {
				if mask&bit > 0 && feasible[mask] && !feasible[mask-bit] {
					t.Fatalf("%s %v is feasible, but %v is not", parse.Print(p[1]), s, all[mask-bit])
				}
			}
		}
		if feasible[0] != hasTypes(p) {
			t.Fatalf("%s: %v", parse.Print(p[1]), feasible[0])
		}
	})
	if count[api.OK] < 40000 || count[api.ErrType] < 10000 {
		t.Errorf("too few: %v", count)
	}
}

// pool are types that sites may have.
func pool(t *testing.T) []api.Type {
	t.Helper()
	var l []api.Type
	p, _ := program(t, "m", "def a: unit = 1; def a1: int = 1; def a2: bool = 1; def a3: int -> int = 1; def a4: int -> bool = 1; def a5: {a: int, b: int} = 1; def a6: {a: bool} = 1; def a7: [A: int | B: int] = 1; def a8: [A: int] = 1; def a9: [A: int | B: bool] = 1; def b: (int -> int) -> int = 1; def b1: bool -> bool -> bool = 1;")
	for _, d := range p[0].Defs {
		l = append(l, d.T)
	}
	return l
}

// covers tells whether the ground form a can be that of a type that becomes b when types and children are put for its variables.
func covers(a, b api.Type) bool {
	switch {
	case a[0].Kind == api.Unit:
		return true
	case a[0].Kind != b[0].Kind:
		return false
	case a[0].Kind == api.Arrow:
		return covers(ty.Part(a, 1), ty.Part(b, 1)) && covers(ty.Part(a, ty.End(a, 1)), ty.Part(b, ty.End(b, 1)))
	}
	kids := map[string]api.Type{}
	for _, k := range ty.Kids(b, 0) {
		kids[b[k].Name] = ty.Part(b, k)
	}
	for _, k := range ty.Kids(a, 0) {
		if kid, ok := kids[a[k].Name]; !ok || !covers(ty.Part(a, k), kid) {
			return false
		}
	}
	return true
}

// P14.3: where types of the pool for one or two sites, or for three, let a program have types, the set is feasible, and the principal assignment is not more special.
func TestComplete(t *testing.T) {
	types := pool(t)
	count, turn := 0, 0
	samples(t, func(p []api.Module, sites []int) {
		turn++
		if !hasTypes(p) { // nor has it with more precise ones
			return
		}
		for _, s := range subsets(sites) {
			if len(s) == 0 || len(s) > 3 || len(s) == 2 && turn%20 > 0 || len(s) == 3 && turn%200 > 0 {
				continue
			}
			principal, errno := infer.Solve(p, s)
			var try func(l []api.Choice)
			try = func(l []api.Choice) {
				if len(l) < len(s) {
					for _, x := range types {
						try(append(slices.Clone(l), api.Choice{Site: s[len(l)], T: x}))
					}
					return
				}
				if !hasTypes(assign.Program(p, l)) {
					return
				}
				count++
				fits := func(a, b api.Choice) bool { return covers(a.T, b.T) }
				if errno != api.OK || !slices.EqualFunc(principal, l, fits) {
					t.Fatalf("%s: %s, but %s %d", parse.Print(p[1]), told(l), told(principal), errno)
				}
			}
			try(nil)
		}
	})
	if count < 40000 {
		t.Errorf("only %d", count)
	}
}

// P14.2 and P14.4: where a program has no types at all, no set is feasible.
func TestNeverTypes(t *testing.T) {
	for _, text := range []string{"def x = 1 + true; def f = fun (x) -> x;", "def f = fun (x) -> x; def x: int = true;", "def f = fun (x: ?) -> (1: bool);", "def f = fun (x) -> (fun (y: int) -> y) {};"} {
		p, n := program(t, "m", text)
		for _, s := range subsets(upTo(n)) {
			checkSolve(t, p, s, "", api.ErrType)
		}
	}
}

// P14.2 and P14.4: where all sites are feasible together, so is each smaller set, and its assignment yields types.
func TestAllSubsets(t *testing.T) {
	p, n := program(t, "m", `
		def f = fun (x) -> if x.a then [A = x.b + 1] else [B = x];
		def g = case f {a = true, b = 1} of A y -> y | B y -> y.b end;
		def h = rec k (n) = if n < g then "" else k (n - 1) ++ "s" in k;`)
	row := "{a: bool, b: int}"
	union := "[A: int | B: " + row + "]"
	checkSolve(t, p, upTo(n), "1: "+row+" -> "+union+"; 2: "+row+"; 3: "+union+"; 4: "+union+"; 5: int; 6: int -> string; 7: int; 8: string", api.OK)
	for _, s := range subsets(upTo(n)) {
		l, errno := infer.Solve(p, s)
		if errno != api.OK || !slices.Equal(set(l), s) || !infer.Feasible(p, s) || !hasTypes(assign.Program(p, l)) {
			t.Errorf("%v: %s %d", s, told(l), errno)
		}
	}
}
