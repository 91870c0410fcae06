package infer

import (
	"slices"

	"leaven/api"
	"leaven/ast"
	"leaven/scope"
	"leaven/ty"
	"leaven/unify"
)

// inference finds the types of parts, in which the sites of a set are variables.
//
// It leaves the variables in these types, as resolved forms may be large, and be needed again and again.
// What a variable stands for has no ?, so whatever makes the variable consistent with another type finds the same as a look into its resolved form.
// So no type here has a Tail, as Tails stand only in what variables stand for.
type inference struct {
	*unify.Solver
	sites  []int
	names  map[string]api.Type // those that are bound
	failed bool                // something can't be made consistent; after that nothing is visited any more
}

// program visits all definitions of p.
func (s *inference) program(p []api.Module) {
	for m, module := range p {
		s.names = map[string]api.Type{}
		for _, b := range scope.Env(p, m, 0) { // to which each definition adds itself for those after it
			s.names[b.Name] = s.opened(b.T)
		}
		for _, d := range module.Defs {
			t := s.opened(d.T)
			s.agree(s.expr(d.E), t)
			s.names[d.Name] = t
		}
	}
}

// opened returns t, in which each ? with a site of the set is the variable of this site.
func (s *inference) opened(t api.Type) api.Type {
	isOpen := func(n api.Node) bool {
		_, ok := slices.BinarySearch(s.sites, n.N)
		return ok && n.Kind == api.Dyn
	}
	if !slices.ContainsFunc(t, isOpen) {
		return t
	}
	t = slices.Clone(t)
	for i, n := range t {
		if isOpen(n) {
			t[i].Kind = api.Var
		}
	}
	return t
}

// agree makes a and b consistent.
func (s *inference) agree(a, b api.Type) {
	if s.failed || ty.Same(a, b) { // the solver would build trees of both, only to find that nothing needs to be done
		return
	}
	s.require(s.Agree(a, b) == api.OK)
}

// require notes that there are no types if it does not hold.
func (s *inference) require(holds bool) {
	s.failed = s.failed || !holds
}

// expr returns the type of e.
func (s *inference) expr(e api.Expr) api.Type {
	next := 0
	var visit func() api.Type
	visit = func() api.Type {
		s.require(next < len(e))
		if s.failed {
			return nil
		}
		i := next
		next++
		return s.part(e, i, visit)
	}
	return visit()
}

// part returns the type of part i of e, whose children are visited one after the other.
func (s *inference) part(e api.Expr, i int, visit func() api.Type) api.Type {
	p := e[i]
	t := s.opened(p.T)
	switch p.Kind {
	case api.Lit:
		return t
	case api.Name:
		return s.name(p.Name)
	case api.Fun:
		return ty.Arrow(t, s.with(p.Bind, t, visit))
	case api.App:
		return s.application(visit(), visit())
	case api.Let:
		s.agree(visit(), t)
		return s.with(p.Bind, t, visit)
	case api.Rec:
		return s.recursion(p, visit)
	case api.If:
		s.agree(visit(), base(api.Bool))
		return s.meet(visit(), visit())
	case api.Case:
		return s.cases(branches(e, i), visit)
	case api.Branch: // its Case has bound what it binds
		return visit()
	case api.Op:
		operand, result := operator(p.Name)
		s.agree(visit(), base(operand))
		s.agree(visit(), base(operand))
		return base(result)
	case api.Rows:
		return s.rows(e, i, visit)
	case api.Get:
		return s.field(visit(), api.Record, p.Name)
	case api.Inject:
		s.agree(visit(), s.field(t, api.Union, p.Name))
		return t
	case api.As:
		s.agree(visit(), t)
		return t
	case api.Cast:
		return s.cast(visit(), t, s.opened(p.U))
	}
	s.require(false) // it is no part
	return nil
}

func (s *inference) name(name string) api.Type {
	t, ok := s.names[name]
	s.require(ok)
	return t
}

// with visits the next part, in which a name has the type t.
func (s *inference) with(name string, t api.Type, visit func() api.Type) api.Type {
	outside, ok := s.names[name]
	s.names[name] = t
	u := visit()
	delete(s.names, name)
	if ok {
		s.names[name] = outside
	}
	return u
}

func (s *inference) application(f, x api.Type) api.Type {
	argument, result := s.call(f)
	s.agree(x, argument)
	return result
}

func (s *inference) recursion(p api.Part, visit func() api.Type) api.Type {
	t, u := s.opened(p.T), s.opened(p.U)
	return s.with(p.Name, ty.Arrow(t, u), func() api.Type {
		s.agree(s.with(p.Bind, t, visit), u)
		return visit()
	})
}

// branches returns the branches of the Case that part i is.
func branches(e api.Expr, i int) []api.Part {
	var l []api.Part
	for _, k := range ast.Kids(e, i) {
		if e[k].Kind == api.Branch { // as all but the first one are
			l = append(l, e[k])
		}
	}
	return l
}

func (s *inference) cases(l []api.Part, visit func() api.Type) api.Type {
	of := visit()
	var tags []string
	for _, b := range l {
		tags = append(tags, b.Label)
	}
	s.agree(of, s.row(api.Union, tags, slices.Repeat([]api.Type{base(api.Dyn)}, len(l)))) // so that of has exactly these tags, if it is known
	var t api.Type
	for i, b := range l {
		u := s.with(b.Bind, s.field(of, api.Union, b.Label), visit)
		if i > 0 {
			u = s.meet(t, u)
		}
		t = u
	}
	return t
}

func (s *inference) rows(e api.Expr, i int, visit func() api.Type) api.Type {
	var labels []string
	var types []api.Type
	for _, k := range ast.Kids(e, i) {
		labels, types = append(labels, e[k].Label), append(types, visit())
	}
	return s.row(api.Record, labels, types)
}

// row returns a record or a union.
func (s *inference) row(kind int, labels []string, l []api.Type) api.Type {
	t, errno := ty.Row(kind, labels, l)
	s.require(errno == api.OK)
	return t
}

// cast requires, unlike all other parts, that x and t have ? in the same places.
func (s *inference) cast(x, t, u api.Type) api.Type {
	s.agree(x, t)
	s.require(!s.failed && ty.Same(s.Known(x), s.Known(t)))
	s.agree(t, u)
	return u
}
