package infer

import (
	"leaven/api"
	"leaven/ty"
)

// base returns the type that is a node of this kind.
func base(kind int) api.Type {
	return api.Type{{Kind: kind}}
}

// operator returns the kinds of the operands and of the result of an operator.
func operator(name string) (operand, result int) {
	switch name {
	case "<", "==":
		return api.Int, api.Bool
	case "&&", "||":
		return api.Bool, api.Bool
	case "++":
		return api.String, api.String
	}
	return api.Int, api.Int
}

// is reports whether the outermost node of t is of this kind.
func is(t api.Type, kind int) bool {
	return len(t) > 0 && t[0].Kind == kind
}

// call returns the argument and the result of a function of the type t.
func (s *inference) call(t api.Type) (argument, result api.Type) {
	switch {
	case is(t, api.Dyn):
		return base(api.Dyn), base(api.Dyn)
	case is(t, api.Arrow):
		return ty.Part(t, 1), ty.Part(t, ty.End(t, 1))
	}
	argument, result = s.Var(), s.Var()
	s.agree(t, ty.Arrow(argument, result))
	return argument, result
}

// field returns the child of t, a record or a union, with this label.
func (s *inference) field(t api.Type, kind int, label string) api.Type {
	if is(t, api.Dyn) {
		return base(api.Dyn)
	}
	for _, i := range ty.Kids(t, 0) {
		if t[i].Name == label {
			return ty.Part(t, i)
		}
	}
	child := s.Var()
	s.agree(t, s.Open(kind, label, child))
	return child
}

// meet makes a and b consistent, and returns their meet.
func (s *inference) meet(a, b api.Type) api.Type {
	s.agree(a, b)
	if s.failed {
		return nil
	}
	var m api.Type
	for i, j := 0, 0; i < len(a) && j < len(b); { // they have the same nodes where neither of them has a ? or a variable
		switch {
		case a[i].Kind == api.Var || b[j].Kind == api.Dyn:
			end := ty.End(a, i)
			m = append(m, a[i:end]...)
			i, j = end, ty.End(b, j)
		case b[j].Kind == api.Var || a[i].Kind == api.Dyn:
			end := ty.End(b, j)
			m = append(m, b[j:end]...)
			i, j = ty.End(a, i), end
		default:
			m = append(m, a[i])
			i, j = i+1, j+1
		}
	}
	return m
}
