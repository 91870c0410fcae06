package infer_test

import (
	"slices"

	"leaven/api"
	"leaven/ast"
	"leaven/scope"
	"leaven/term"
	"leaven/ty"
	"leaven/unify"
)

// words does what the chapter says, word by word: it looks at types in resolved form, where the program leaves variables in them.
type words struct {
	s     *unify.Solver
	e     api.Expr
	wrong bool
}

// byWords is what Solve returns for sites of a program.
func byWords(p []api.Module, set []int) ([]api.Choice, api.Errno) {
	w := &words{s: unify.New(1000)}
	p = varied(p, set)
	for m, module := range p {
		for d, def := range module.Defs {
			w.e = def.E
			w.agree(w.typ(scope.Env(p, m, d), 0), def.T)
			if w.wrong {
				return nil, api.ErrType
			}
		}
	}
	var l []api.Choice
	for _, n := range set {
		l = append(l, api.Choice{Site: n, T: term.Ground(w.s.Known(api.Type{{Kind: api.Var, N: n}}))})
	}
	return l, api.OK
}

// varied is p in which the sites are Vars.
func varied(p []api.Module, set []int) []api.Module {
	vary := func(x api.Type) api.Type {
		x = slices.Clone(x)
		for i, n := range x {
			if n.Kind == api.Dyn && slices.Contains(set, n.N) {
				x[i] = api.Node{Kind: api.Var, Name: n.Name, N: n.N}
			}
		}
		return x
	}
	p = slices.Clone(p)
	for m := range p {
		p[m].Defs = slices.Clone(p[m].Defs)
		for d := range p[m].Defs {
			def := &p[m].Defs[d]
			def.T, def.E = vary(def.T), slices.Clone(def.E)
			for i := range def.E {
				def.E[i].T, def.E[i].U = vary(def.E[i].T), vary(def.E[i].U)
			}
		}
	}
	return p
}

// agree makes two types consistent.
func (w *words) agree(a, b api.Type) {
	w.wrong = w.wrong || w.s.Agree(a, b) != api.OK
}

// known is the resolved form of a type, which has one node if something is wrong.
func (w *words) known(x api.Type) api.Type {
	if w.wrong {
		return api.Type{{}}
	}
	return w.s.Known(x)
}

// typ is the type of part i in resolved form.
func (w *words) typ(env []api.Bound, i int) api.Type {
	if w.wrong {
		return api.Type{{}}
	}
	return w.known(w.raw(env, i))
}

// raw is the chapter 10's table, with the differences of this chapter.
func (w *words) raw(env []api.Bound, i int) api.Type {
	p, kids := w.e[i], ast.Kids(w.e, i)
	with := func(l ...api.Bound) []api.Bound { return append(slices.Clone(env), l...) }
	x := api.Bound{Name: p.Bind, T: p.T}
	switch p.Kind {
	case api.Lit:
		return p.T
	case api.Name:
		for _, b := range slices.Backward(env) {
			if b.Name == p.Name {
				return b.T
			}
		}
	case api.Fun:
		return ty.Arrow(p.T, w.typ(with(x), kids[0]))
	case api.App:
		f, arg := w.typ(env, kids[0]), w.typ(env, kids[1])
		a, r := w.call(w.known(f)) // of which more may be known by now
		w.agree(arg, a)
		return r
	case api.Let:
		w.agree(w.typ(env, kids[0]), p.T)
		return w.typ(with(x), kids[1])
	case api.Rec:
		f := api.Bound{Name: p.Name, T: ty.Arrow(p.T, p.U)}
		w.agree(w.typ(with(f, x), kids[0]), p.U)
		return w.typ(with(f), kids[1])
	case api.If:
		a, b, c := w.typ(env, kids[0]), w.typ(env, kids[1]), w.typ(env, kids[2])
		w.agree(a, api.Type{{Kind: api.Bool}})
		return w.meet(b, c)
	case api.Case:
		return w.cases(env, kids)
	case api.Op:
		kinds := map[string][2]int{"<": {api.Int, api.Bool}, "==": {api.Int, api.Bool}, "&&": {api.Bool, api.Bool}, "||": {api.Bool, api.Bool}, "++": {api.String, api.String}}
		k, ok := kinds[p.Name]
		if !ok {
			k = [2]int{api.Int, api.Int}
		}
		for _, kid := range kids {
			w.agree(w.typ(env, kid), api.Type{{Kind: k[0]}})
		}
		return api.Type{{Kind: k[1]}}
	}
	return w.data(env, p, kids)
}

// data is the rest of the table.
func (w *words) data(env []api.Bound, p api.Part, kids []int) api.Type {
	switch p.Kind {
	case api.Rows:
		var labels []string
		var types []api.Type
		for _, k := range kids {
			labels, types = append(labels, w.e[k].Label), append(types, w.typ(env, k))
		}
		x, _ := ty.Row(api.Record, labels, types)
		return x
	case api.Get:
		return w.field(w.typ(env, kids[0]), api.Record, p.Name)
	case api.Inject:
		x := w.typ(env, kids[0])
		w.agree(x, w.field(w.known(p.T), api.Union, p.Name))
		return p.T
	case api.As:
		w.agree(w.typ(env, kids[0]), p.T)
		return p.T
	case api.Cast:
		x := w.typ(env, kids[0])
		w.agree(x, p.T)
		w.wrong = w.wrong || !ty.Same(w.known(x), w.known(p.T))
		w.agree(p.T, p.U)
		return p.U
	}
	w.wrong = true
	return nil
}

// call is Call of a type in resolved form.
func (w *words) call(x api.Type) (api.Type, api.Type) {
	switch x[0].Kind {
	case api.Dyn:
		return api.Type{{}}, api.Type{{}}
	case api.Arrow:
		kids := ty.Kids(x, 0)
		return ty.Part(x, kids[0]), ty.Part(x, kids[1])
	case api.Var:
		a, r := w.s.Var(), w.s.Var()
		w.agree(x, ty.Arrow(a, r))
		return a, r
	}
	w.wrong = true
	return api.Type{{}}, api.Type{{}}
}

// open tells whether a row in resolved form has a Tail.
func open(x api.Type) bool {
	kids := ty.Kids(x, 0)
	return len(kids) > 0 && x[kids[len(kids)-1]].Kind == api.Tail
}

// field is Field of a type in resolved form.
func (w *words) field(x api.Type, kind int, label string) api.Type {
	if x[0].Kind == api.Dyn {
		return api.Type{{}}
	}
	row := x[0].Kind == api.Record || x[0].Kind == api.Union
	for _, k := range ty.Kids(x, 0) {
		if row && x[k].Name == label {
			return ty.Part(x, k)
		}
	}
	if x[0].Kind == api.Var || row && open(x) {
		v := w.s.Var()
		w.agree(x, w.s.Open(kind, label, v))
		return v
	}
	w.wrong = true
	return api.Type{{}}
}

func (w *words) cases(env []api.Bound, kids []int) api.Type {
	of := w.typ(env, kids[0])
	var tags []string
	results := map[string]api.Type{}
	for _, k := range kids[1:] {
		tags = append(tags, w.e[k].Label)
	}
	slices.Sort(tags)
	switch {
	case of[0].Kind == api.Var || of[0].Kind == api.Union && open(of):
		var vars []api.Type
		for _, tag := range tags {
			results[tag] = w.s.Var()
			vars = append(vars, results[tag])
		}
		row, _ := ty.Row(api.Union, tags, vars)
		w.agree(of, row)
	case of[0].Kind == api.Union:
		var own []string
		for _, k := range ty.Kids(of, 0) {
			own = append(own, of[k].Name)
			results[of[k].Name] = ty.Part(of, k)
		}
		w.wrong = w.wrong || !slices.Equal(own, tags)
	case of[0].Kind == api.Dyn:
		for _, tag := range tags {
			results[tag] = api.Type{{}}
		}
	default:
		w.wrong = true
	}
	var x api.Type
	for n, k := range kids[1:] {
		p := w.e[k]
		y := w.typ(append(slices.Clone(env), api.Bound{Name: p.Bind, T: results[p.Label]}), k+1)
		if n > 0 {
			y = w.meet(x, y)
		}
		x = y
	}
	return x
}

// meet is the meet of two types, which are made consistent.
func (w *words) meet(a, b api.Type) api.Type {
	w.agree(a, b)
	return met(w.known(a), w.known(b))
}

// met is the meet of two consistent types in resolved form.
func met(a, b api.Type) api.Type {
	switch {
	case a[0].Kind == api.Dyn && b[0].Kind != api.Dyn:
		return b
	case b[0].Kind == api.Dyn:
		return a
	}
	x := api.Type{a[0]}
	kids := ty.Kids(b, 0)
	for i, k := range ty.Kids(a, 0) {
		y := met(ty.Part(a, k), ty.Part(b, kids[i]))
		y[0].Name = a[k].Name
		x = append(x, y...)
	}
	return x
}
