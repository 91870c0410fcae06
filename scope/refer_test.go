package scope_test

import (
	"slices"
	"strconv"
	"testing"

	"leaven/api"
	"leaven/scope"
)

// may lists what definition d of module m may refer to, straight from the definition; each as the module and the definition that is meant.
func may(l []api.Module, m, d int) map[string][2]int {
	out := map[string][2]int{}
	for k := range l {
		for i, def := range l[k].Defs {
			if k == m && i < d {
				out[def.Name] = [2]int{k, i}
			}
			if slices.Contains(l[m].Imports, l[k].Name) {
				out[l[k].Name+"!"+def.Name] = [2]int{k, i}
			}
		}
	}
	return out
}

// small is the programs of three modules, with imports and definitions of all kinds; the type of each definition has a number of its own.
func small() [][]api.Module {
	var out [][]api.Module
	own := [][]string{nil, {"x"}, {"y", "x"}, {"x", "b"}}
	for k := range 2 * 5 * 64 {
		l := []api.Module{{Name: "a"}, {Name: "b", Imports: [][]string{nil, {"a"}}[k%2]}, {Name: "c", Imports: [][]string{nil, {"a"}, {"b"}, {"a", "b"}, {"b", "a"}}[k/2%5]}}
		for i, names := range [][]string{own[k/10%4], own[k/40%4], own[k/160]} {
			for j, name := range names {
				l[i].Defs = append(l[i].Defs, api.Def{Name: name, T: api.Type{{N: 10*i + j + 1}}, E: api.Expr{{Kind: api.Rows}}})
			}
		}
		out = append(out, l)
	}
	return out
}

// P9.3: Env contains what Names permits, and both are what the chapter says.
func TestPermitted(t *testing.T) {
	asked := []string{"x", "y", "b", "z", "a"}
	for _, module := range []string{"a", "b", "c", "d"} {
		asked = append(asked, module+"!x", module+"!y", module+"!b", module+"!z")
	}
	for _, l := range small() {
		for m := range l {
			for d := range l[m].Defs {
				hold(t, l, m, d, asked)
			}
		}
	}
}

// hold holds Env and Names, for definition d of module m and the names that it is made to have, against the chapter.
func hold(t *testing.T, l []api.Module, m, d int, asked []string) {
	t.Helper()
	want := may(l, m, d)
	env := scope.Env(l, m, d)
	if len(env) != len(want) {
		t.Fatalf("%v, %d %d: %v, want %v", l, m, d, env, want)
	}
	for _, b := range env {
		if at, ok := want[b.Name]; !ok || !slices.Equal(b.T, l[at[0]].Defs[at[1]].T) {
			t.Fatalf("%v, %d %d: %v, want %v", l, m, d, env, want)
		}
	}
	was := l[m].Defs[d].E
	for _, name := range asked {
		_, permitted := want[name]
		l[m].Defs[d].E = api.Expr{{Kind: api.Fun, Bind: "q"}, {Kind: api.App}, {Kind: api.Name, Name: "q"}, {Kind: api.Name, Name: name}}
		gotM, gotD, got, e := scope.Names(l)
		if permitted && e != api.OK || !permitted && (gotM != m || gotD != d || got != name || e != api.ErrName) {
			t.Fatalf("%v, %d %d, %s: %d %d %q %d", l, m, d, name, gotM, gotD, got, e)
		}
	}
	l[m].Defs[d].E = was
}

// P9.1 (I1 and I4): many modules with many definitions and imports take no long.
func TestLarge(t *testing.T) {
	const modules, defs = 300, 200
	var l []api.Module
	for m := range modules {
		module := api.Module{Name: "m" + strconv.Itoa(1000-m)}
		for k := range m {
			module.Imports = append(module.Imports, "m"+strconv.Itoa(1000-k))
		}
		for d := range defs {
			e := api.Expr{{Kind: api.App}, {Kind: api.Name, Name: "x" + strconv.Itoa(max(d-1, 0))}, {Kind: api.Name, Name: "m" + strconv.Itoa(1000-max(m-1, 0)) + "!x" + strconv.Itoa(d)}}
			if d == 0 || m == 0 {
				e = api.Expr{{Kind: api.Rows}}
			}
			module.Defs = append(module.Defs, api.Def{Name: "x" + strconv.Itoa(d), T: api.Type{{Kind: api.Int}}, E: e})
		}
		l = append(l, module)
	}
	slices.Reverse(l)
	if p, n, at, e := scope.Program(l); len(p) != modules || p[0].Name != "m1000" || n != 0 || at != 0 || e != api.OK {
		t.Errorf("%d %d %d %d", len(p), n, at, e)
	}
	if env := scope.Env(l, 0, defs-1); len(env) != modules*defs-1 || env[0].Name != "m1000!x0" || env[modules*defs-2].Name != "x198" {
		t.Errorf("%d", len(env))
	}
	l[0].Defs[defs-1].E[1].Name = "x199"
	if p, n, at, e := scope.Program(l); len(p) != 0 || n != 0 || at != 0 || e != api.ErrName {
		t.Errorf("%d %d %d %d", len(p), n, at, e)
	}
}
