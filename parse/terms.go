package parse

import (
	"gnomon/api"
	"gnomon/lex"
	"gnomon/net"
)

// expression reads a sum or cases.
func (p *parser) expression() []api.Node {
	if p.speaksTruth() {
		return p.cases(p.limited(p.test)).list()
	}
	return p.limited(p.sum)().list()
}

// speaksTruth tells whether some token of the text stands in cases alone.
func (p *parser) speaksTruth() bool {
	for _, t := range p.tokens {
		switch t.Text {
		case "!", "&&", "||", "true":
			return true
		}
		if relationOf(t.Text).op != 0 {
			return true
		}
	}
	return false
}

// limited reads the tests, or the sum, of one expression: so that a fault of too many nodes is told of the one with which there are so many. Each but the first one needs a node more, which joins it to those ahead.
func (p *parser) limited(row func() *tree) func() *tree {
	nodes := -1
	return func() *tree {
		first := p.token()
		t := row()
		nodes += 1 + t.size
		if nodes > api.MaxNodes {
			panic(fault{api.ErrLong, first.At})
		}
		return t
	}
}

// chain reads parts with some signs between, and puts them together from the left.
func (p *parser) chain(part func() *tree, signs ...string) *tree {
	t := part()
	for p.is(signs...) {
		op := joiner(p.expect(signs...).Text)
		t = join(op, t, part())
	}
	return t
}

// cases reads tests by a function that is handed in.
func (p *parser) cases(test func() *tree) *tree {
	return p.chain(func() *tree { return p.chain(test, "&&") }, "||")
}

func (p *parser) test() *tree {
	switch {
	case p.accept("true"):
		return leaf(api.True, 0)
	case p.accept("!"):
		return join(api.Not, p.bracket())
	case p.is("(") && !p.opensSum():
		return p.bracket()
	}
	return p.comparison()
}

// bracket reads cases in brackets.
func (p *parser) bracket() *tree {
	p.expect("(")
	t := p.cases(p.test)
	p.expect(")")
	return t
}

func (p *parser) comparison() *tree {
	left := p.sum()
	r := relationOf(p.token().Text)
	if r.op == 0 {
		panic(p.unfit())
	}
	p.here++
	right := p.sum()
	if r.changed {
		left, right = right, left
	}
	return join(r.op, left, right)
}

func (p *parser) sum() *tree { return p.chain(p.product, "+", "-") }

func (p *parser) product() *tree { return p.chain(p.one, "*") }

func (p *parser) one() *tree {
	switch {
	case p.token().Kind == lex.Number:
		return leaf(api.Num, p.number(api.MaxValue).N)
	case p.token().Kind == lex.Word:
		_, number := p.named(net.Variable)
		return leaf(api.Var, number)
	case p.accept("-"):
		return join(api.Neg, p.one())
	}
	p.expect("(")
	t := p.sum()
	p.expect(")")
	return t
}

// guards reads a guard, and others behind it.
func (p *parser) guards() []api.Guard {
	l := p.guard(nil)
	for p.accept("&&") {
		l = p.guard(l)
	}
	return l
}

// guard reads one guard more.
func (p *parser) guard(l []api.Guard) []api.Guard {
	first := p.token()
	_, clock := p.named(net.Clock)
	if len(l) == api.MaxGuards {
		panic(fault{api.ErrLong, first.At})
	}
	if p.is("-") {
		panic(p.difference())
	}
	r := relationOf(p.token().Text)
	if r.cmp == 0 {
		panic(p.unfit())
	}
	p.here++
	n, _ := p.num(api.MaxConst)
	return append(l, api.Guard{Clock: clock, Cmp: r.cmp, N: n})
}

// difference is the fault of the - here, behind a guard's clock.
func (p *parser) difference() fault {
	minus := p.expect("-")
	if kind, _ := p.find(); kind == net.Clock {
		return fault{api.ErrDiagonal, minus.At}
	}
	return fault{api.ErrSyntax, minus.At}
}

// conds are the guards and the tests of one edge, or of one part of a goal.
type conds struct {
	guards []api.Guard
	// test is all tests that have been read, joined; read reads one more.
	test *tree
	read func() *tree
	// bare says that the only test is a true without brackets.
	bare bool
}

func (p *parser) newConds() *conds { return &conds{read: p.limited(p.test)} }

// cond reads a guard or a test.
func (p *parser) cond(c *conds) {
	if kind, _ := p.find(); kind == net.Clock {
		c.guards = p.guard(c.guards)
		return
	}
	bare := p.is("true")
	t := c.read()
	if c.test == nil {
		c.test, c.bare = t, bare
		return
	}
	c.test, c.bare = join(api.And, c.test, t), false
}

func (c *conds) nodes() []api.Node {
	if c.bare {
		return nil
	}
	return c.test.list()
}
