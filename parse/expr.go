package parse

import (
	"strconv"

	"leaven/api"
)

// lowest is the precedence of the operators that bind the least.
const lowest = 1

// ranks returns the precedences of the operators.
func ranks() map[string]int {
	return map[string]int{
		"||": lowest,
		"&&": 2,
		"<":  3, "==": 3,
		"+": 4, "-": 4, "++": 4,
		"*": 5, "/": 5,
	}
}

// tree is an expression that was read. Its parts are listed only when it is complete, as an operator comes before operands that were read ahead of it.
type tree struct {
	part api.Part
	kids []*tree
}

// expr returns the parts of x in pre-order.
func (x *tree) expr() api.Expr {
	var e api.Expr
	var visit func(x *tree)
	visit = func(x *tree) {
		e = append(e, x.part)
		for _, k := range x.kids {
			visit(k)
		}
	}
	visit(x)
	return e
}

func joined(part api.Part, kids ...*tree) *tree {
	return &tree{part, kids}
}

// literal returns a Lit of a type that consists of a node of this kind.
func literal(kind int, number int64, text string) *tree {
	return joined(api.Part{Kind: api.Lit, T: api.Type{{Kind: kind}}, Num: number, Name: text})
}

// expr parses an expression at this level, as far as possible.
func (p *parser) expr(level int) *tree {
	if level > api.MaxDeep {
		p.fail(api.ErrDeep)
	}
	switch {
	case p.skip("fun"):
		return p.function(level)
	case p.skip("let"):
		return p.let(level)
	case p.skip("rec"):
		return p.rec(level)
	case p.skip("if"):
		return p.choice(level)
	case p.skip("case"):
		return p.cases(level)
	}
	return p.operation(level, lowest)
}

// function parses what follows fun.
func (p *parser) function(level int) *tree {
	x := api.Part{Kind: api.Fun}
	p.take("(")
	x.Bind = p.word()
	x.T = p.annotation(level)
	p.take(")")
	p.take("->")
	return joined(x, p.expr(level+1))
}

// let parses what follows let.
func (p *parser) let(level int) *tree {
	x := api.Part{Kind: api.Let}
	x.Bind = p.word()
	x.T = p.annotation(level)
	return p.body(x, level)
}

// rec parses what follows rec.
func (p *parser) rec(level int) *tree {
	x := api.Part{Kind: api.Rec}
	x.Name = p.word()
	p.take("(")
	x.Bind = p.word()
	x.T = p.annotation(level)
	p.take(")")
	x.U = p.annotation(level)
	return p.body(x, level)
}

// body parses what follows what a Let or a Rec binds.
func (p *parser) body(x api.Part, level int) *tree {
	p.take("=")
	bound := p.expr(level + 1)
	p.take("in")
	return joined(x, bound, p.expr(level+1))
}

// choice parses what follows if.
func (p *parser) choice(level int) *tree {
	test := p.expr(level + 1)
	p.take("then")
	yes := p.expr(level + 1)
	p.take("else")
	return joined(api.Part{Kind: api.If}, test, yes, p.expr(level+1))
}

// cases parses what follows case.
func (p *parser) cases(level int) *tree {
	of := p.expr(level + 1)
	p.take("of")
	var branches []*tree
	for more := true; more; more = p.skip("|") {
		x := api.Part{Kind: api.Branch}
		x.Label = p.label(api.Tag, branches)
		x.Bind = p.word()
		p.take("->")
		branches = append(branches, joined(x, p.expr(level+1)))
	}
	p.take("end")
	return &tree{api.Part{Kind: api.Case, Many: len(branches)}, append([]*tree{of}, branches...)}
}

// operation parses operands with operators in between whose precedence is at least this one.
func (p *parser) operation(level, least int) *tree {
	left := p.operand(level)
	for p.rank() >= least {
		x := api.Part{Kind: api.Op, Name: p.token().Text}
		rank := p.rank()
		p.at++
		left = joined(x, left, p.operation(level, rank+1))
	}
	return left
}

// rank returns the precedence of the operator that the next token is, or 0 if it is none.
func (p *parser) rank() int {
	t := p.token()
	if t.Kind != api.Sign {
		return 0
	}
	return p.ranks[t.Text]
}

func (p *parser) operand(level int) *tree {
	x := p.applicand(level)
	if x == nil {
		p.fail(api.ErrForm)
	}
	for y := p.applicand(level); y != nil; y = p.applicand(level) {
		x = joined(api.Part{Kind: api.App}, x, y)
	}
	return x
}

// applicand returns nil if none begins with the next token.
func (p *parser) applicand(level int) *tree {
	x := p.atom(level)
	for x != nil && p.skip(".") {
		x = joined(api.Part{Kind: api.Get, Name: p.word()}, x)
	}
	return x
}

// atom returns nil if none begins with the next token.
func (p *parser) atom(level int) *tree {
	switch {
	case p.token().Kind == api.Number:
		return p.number()
	case p.token().Kind == api.Text:
		return p.text()
	case p.token().Kind == api.Word:
		return p.variable()
	case p.skip("true"):
		return literal(api.Bool, 1, "")
	case p.skip("false"):
		return literal(api.Bool, 0, "")
	case p.skip("("):
		return p.parens(level)
	case p.skip("{"):
		return p.rows(level)
	case p.skip("["):
		return p.inject(level)
	}
	return nil
}

func (p *parser) number() *tree {
	n, _ := strconv.ParseInt(p.token().Text, 10, 64) // layer 2 permits no number that is too large
	p.at++
	return literal(api.Int, n, "")
}

func (p *parser) text() *tree {
	s := p.token().Text
	p.at++
	return literal(api.String, 0, s)
}

// variable parses a name, with or without that of a module.
func (p *parser) variable() *tree {
	s := p.word()
	if p.skip("!") {
		s += "!" + p.word()
	}
	return joined(api.Part{Kind: api.Name, Name: s})
}

// parens parses what follows a (.
func (p *parser) parens(level int) *tree {
	if p.skip(")") {
		return literal(api.Unit, 0, "")
	}
	x := p.expr(level + 1)
	if p.skip(":") {
		x = joined(api.Part{Kind: api.As, T: p.typ(level)}, x)
	}
	p.take(")")
	return x
}

// rows parses what follows a {.
func (p *parser) rows(level int) *tree {
	var kids []*tree
	for more := !p.is("}"); more; more = p.skip(",") {
		label := p.label(api.Word, kids)
		p.take("=")
		kid := p.expr(level + 1)
		kid.part.Label = label
		kids = append(kids, kid)
	}
	p.take("}")
	return joined(api.Part{Kind: api.Rows, Many: len(kids)}, kids...)
}

// inject parses what follows a [.
func (p *parser) inject(level int) *tree {
	x := api.Part{Kind: api.Inject, Name: p.want(api.Tag)}
	p.at++
	p.take("=")
	kid := p.expr(level + 1)
	x.T = p.annotation(level)
	p.take("]")
	return joined(x, kid)
}
