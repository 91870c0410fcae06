package check_test

import (
	"slices"
	"testing"

	"leaven/api"
	"leaven/ast"
	"leaven/check"
	"leaven/prec"
	"leaven/ty"
)

// vaguer are the types that have a ? in place of one part of t.
func vaguer(t api.Type) []api.Type {
	var l []api.Type
	for i, n := range t {
		if n.Kind != api.Dyn {
			l = append(l, slices.Concat(t[:i], api.Type{{Kind: api.Dyn, Name: n.Name}}, t[ty.End(t, i):]))
		}
	}
	return l
}

// variants are env and e with one of their types less precise, in all ways in which one part becomes a ?.
func variants(env []api.Bound, e api.Expr, visit func(env []api.Bound, e api.Expr)) {
	for i, b := range env {
		for _, x := range vaguer(b.T) {
			other := slices.Clone(env)
			other[i].T = x
			visit(other, e)
		}
	}
	for i, p := range e {
		if p.Kind == api.Lit { // its type is that of its value
			continue
		}
		for _, x := range vaguer(p.T) {
			other := slices.Clone(e)
			other[i].T = x
			visit(env, other)
		}
		for _, x := range vaguer(p.U) {
			other := slices.Clone(e)
			other[i].U = x
			visit(env, other)
		}
	}
}

// unknown are env and e in which all types are ?, but those of values.
func unknown(env []api.Bound, e api.Expr) ([]api.Bound, api.Expr) {
	env, e = slices.Clone(env), slices.Clone(e)
	for i := range env {
		env[i].T = api.Type{{}}
	}
	for i, p := range e {
		if p.Kind != api.Lit && len(p.T) > 0 {
			e[i].T = api.Type{{}}
		}
		if len(p.U) > 0 {
			e[i].U = api.Type{{}}
		}
	}
	return env, e
}

func hasCast(e api.Expr) bool {
	return slices.ContainsFunc(e, func(p api.Part) bool { return p.Kind == api.Cast })
}

// P10.2: with less precise types, there still is a type, which is at most as precise.
func TestGradualGuarantee(t *testing.T) {
	count := 0
	for _, c := range []struct {
		names string
		all   []api.Expr
	}{{gradualNames, gradual(t).all()}, {staticNames, static(t).all()}} {
		env := bounds(t, c.names)
		for _, e := range c.all {
			x, _, errno := check.Expr(env, e)
			if errno != api.OK || hasCast(e) {
				continue
			}
			guarantee := func(lessEnv []api.Bound, less api.Expr) {
				count++
				y, at, errno := check.Expr(lessEnv, less)
				if errno != api.OK || !prec.Below(x, y) {
					t.Fatalf("%s: %s, but %s: %s at %d: %d", ast.Print(e), ty.Print(x), ast.Print(less), ty.Print(y), at, errno)
				}
			}
			variants(used(env, e), e, guarantee)
			guarantee(unknown(env, e))
		}
	}
	if count < 20000 {
		t.Errorf("only %d", count)
	}
}

// used are the names of env that are free in e.
func used(env []api.Bound, e api.Expr) []api.Bound {
	var l []api.Bound
	free := ast.Free(e)
	for _, b := range env {
		if slices.Contains(free, b.Name) {
			l = append(l, b)
		}
	}
	return l
}

// P10.3: where nothing contains a ?, the type is static.
func TestStatic(t *testing.T) {
	env := bounds(t, staticNames)
	count := 0
	for _, e := range static(t).all() {
		x, _, errno := check.Expr(env, e)
		if errno == api.OK {
			count++
		}
		if !ty.Static(x) {
			t.Fatalf("%s: %s", ast.Print(e), ty.Print(x))
		}
	}
	if count < 500 {
		t.Errorf("only %d have types", count)
	}
}
