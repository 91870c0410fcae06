package check_test

import (
	"slices"
	"testing"

	"leaven/api"
	"leaven/ast"
	"leaven/check"
	"leaven/prec"
	"leaven/ty"
)

// level is the outermost part of an expression, which is checked by what Expr says of its children.
type level struct {
	env   []api.Bound
	e     api.Expr
	at    int
	errno api.Errno
}

// child is the type of the expression at part k, where names have more types.
func (l *level) child(k int, more ...api.Bound) api.Type {
	if l.errno != api.OK {
		return nil
	}
	t, at, errno := check.Expr(append(slices.Clone(l.env), more...), labelled("", l.e[k:ast.End(l.e, k)]))
	if errno != api.OK {
		l.at, l.errno = k+at, errno
	}
	return t
}

// must notes that what the part requires does not hold.
func (l *level) must(holds bool) {
	if l.errno == api.OK && !holds {
		l.errno = api.ErrType
	}
}

// agree is the requirement that two types are consistent.
func (l *level) agree(a, b api.Type) { l.must(prec.Agree(a, b)) }

// typ is the chapter's table.
func (l *level) typ() api.Type {
	p, kids := l.e[0], ast.Kids(l.e, 0)
	x := api.Bound{Name: p.Bind, T: p.T}
	switch p.Kind {
	case api.Lit:
		return p.T
	case api.Name:
		for i := len(l.env) - 1; i >= 0; i-- {
			if l.env[i].Name == p.Name {
				return l.env[i].T
			}
		}
		l.errno = api.ErrName
	case api.Fun:
		return ty.Arrow(p.T, l.child(kids[0], x))
	case api.App:
		f, arg := l.child(kids[0]), l.child(kids[1])
		a, r, errno := prec.Call(f)
		l.must(errno == api.OK)
		l.agree(arg, a)
		return r
	case api.Let:
		l.agree(l.child(kids[0]), p.T)
		return l.child(kids[1], x)
	case api.Rec:
		f := api.Bound{Name: p.Name, T: ty.Arrow(p.T, p.U)}
		l.agree(l.child(kids[0], f, x), p.U)
		return l.child(kids[1], f)
	case api.If:
		a, b, c := l.child(kids[0]), l.child(kids[1]), l.child(kids[2])
		l.agree(a, api.Type{{Kind: api.Bool}})
		return l.meet(b, c)
	case api.Case:
		return l.cases(kids)
	case api.Op:
		a, b := l.child(kids[0]), l.child(kids[1])
		kinds := map[string][2]int{"+": {api.Int, api.Int}, "<": {api.Int, api.Bool}, "&&": {api.Bool, api.Bool}, "++": {api.String, api.String}}[p.Name]
		l.agree(a, api.Type{{Kind: kinds[0]}})
		l.agree(b, api.Type{{Kind: kinds[0]}})
		return api.Type{{Kind: kinds[1]}}
	}
	return l.data(p, kids)
}

// data is the rest of the table.
func (l *level) data(p api.Part, kids []int) api.Type {
	switch p.Kind {
	case api.Rows:
		var labels []string
		var types []api.Type
		for _, k := range kids {
			labels, types = append(labels, l.e[k].Label), append(types, l.child(k))
		}
		t, _ := ty.Row(api.Record, labels, types)
		return t
	case api.Get:
		t, errno := prec.Field(l.child(kids[0]), p.Name)
		l.must(errno == api.OK)
		return t
	case api.Inject:
		t, errno := prec.Field(p.T, p.Name)
		l.agree(l.child(kids[0]), t)
		l.must(errno == api.OK)
		return p.T
	case api.As:
		l.agree(l.child(kids[0]), p.T)
		return p.T
	case api.Cast:
		l.must(ty.Same(l.child(kids[0]), p.T))
		l.agree(p.T, p.U)
		return p.U
	}
	return nil
}

func (l *level) meet(a, b api.Type) api.Type {
	m, errno := prec.Meet(a, b)
	l.must(errno == api.OK)
	return m
}

func (l *level) cases(kids []int) api.Type {
	u := l.child(kids[0])
	var tags []string
	for _, k := range kids[1:] {
		tags = append(tags, l.e[k].Label)
	}
	slices.Sort(tags)
	own, errno := prec.Tags(u)
	l.must(errno == api.OK && (u[0].Kind == api.Dyn || slices.Equal(own, tags)))
	var types []api.Type
	for _, k := range kids[1:] {
		field, _ := prec.Field(u, l.e[k].Label)
		types = append(types, l.child(k+1, api.Bound{Name: l.e[k].Bind, T: field}))
	}
	t := types[0]
	for _, other := range types[1:] {
		t = l.meet(t, other)
	}
	return t
}

// checkLevel checks that Expr says of e what the chapter's table says.
func checkLevel(t *testing.T, env []api.Bound, e api.Expr) api.Errno {
	t.Helper()
	l := level{env: env, e: e}
	want := l.typ()
	if l.errno != api.OK {
		want = nil
	}
	got, at, errno := check.Expr(env, e)
	if !slices.Equal(got, want) || at != l.at || errno != l.errno {
		t.Fatalf("%s: %s at %d: %d, want %s at %d: %d", ast.Print(e), ty.Print(got), at, errno, ty.Print(want), l.at, l.errno)
	}
	return errno
}

// P10.1 (J1), P10.4: all kinds of expressions with all kinds of children are held against the chapter's table, and types are plain.
func TestEvery(t *testing.T) {
	for _, c := range []struct {
		names string
		all   []api.Expr
	}{{gradualNames, gradual(t).all()}, {staticNames, static(t).all()}} {
		env := bounds(t, c.names)
		checkValid(t, c.all)
		count := map[api.Errno]int{}
		for _, e := range c.all {
			count[checkLevel(t, env, e)]++
			if x, _, errno := check.Expr(env, e); errno == api.OK && (!ty.Plain(x) || !ty.Right(x)) {
				t.Fatalf("%s: %v", ast.Print(e), x)
			}
		}
		if len(c.all) < 2000 || count[api.OK] < 500 || count[api.ErrType] < 500 {
			t.Errorf("too few: %v", count)
		}
	}
}
