package parse

import (
	"gnomon/api"
	"gnomon/lex"
	"gnomon/net"
)

func (p *parser) network() api.Net {
	for !p.atEnd() {
		p.declaration()
	}
	if len(p.net.Autos) == 0 {
		panic(p.unfit())
	}
	return p.net
}

// declaration reads what is put into the network at once, as what comes behind may name it.
func (p *parser) declaration() {
	switch p.expect("clock", "chan", "int", "auto").Text {
	case "clock":
		p.names(&p.net.Clocks, api.MaxClocks)
	case "chan":
		p.names(&p.net.Chans, api.MaxChans)
	case "int":
		p.variable()
	case "auto":
		p.automaton()
	}
}

// fresh reads a name that is not taken, for one thing more than so many.
func (p *parser) fresh(many, most int, taken func(name string) bool) string {
	t := p.take(lex.Word)
	if !lex.IsName(t.Text) || taken(t.Text) {
		panic(fault{api.ErrName, t.At})
	}
	if many == most {
		panic(fault{api.ErrLong, t.At})
	}
	return t.Text
}

func (p *parser) isDeclared(name string) bool {
	kind, _ := net.Find(p.net, name)
	return kind != net.None
}

func (p *parser) names(l *[]string, most int) {
	for more := true; more; more = p.accept(",") {
		*l = append(*l, p.fresh(len(*l), most, p.isDeclared))
	}
	p.expect(";")
}

func (p *parser) variable() {
	v := api.Variable{Name: p.fresh(len(p.net.Vars), api.MaxVars, p.isDeclared)}
	p.expect("in")
	v.Lo, _ = p.num(api.MaxValue)
	p.expect("..")
	v.Hi = p.within(v.Lo, api.MaxValue)
	p.expect(":=")
	v.Init = p.within(v.Lo, v.Hi)
	p.expect(";")
	p.net.Vars = append(p.net.Vars, v)
}

// within reads a variable's number that is from one to another one.
func (p *parser) within(lo, hi int) int {
	n, digits := p.num(api.MaxValue)
	if n < lo || n > hi {
		panic(fault{api.ErrVar, digits.At})
	}
	return n
}

func (p *parser) automaton() {
	auto := len(p.net.Autos)
	name := p.fresh(auto, api.MaxParts, p.isDeclared)
	p.net.Autos = append(p.net.Autos, api.Auto{Name: name})
	a := &p.net.Autos[auto]
	p.expect("{")
	// Without a location there is nothing that a } could end.
	for !p.is("}") || len(a.Locs) == 0 {
		t := p.expect("loc", "edge")
		switch {
		case t.Text == "loc":
			a.Locs = append(a.Locs, p.place(auto))
		case len(a.Edges) == api.MaxEdges:
			panic(fault{api.ErrLong, t.At})
		default:
			a.Edges = append(a.Edges, p.edge(auto))
		}
	}
	p.expect("}")
}

// place reads a location of an automaton.
func (p *parser) place(auto int) api.Loc {
	taken := func(name string) bool {
		_, is := net.FindLoc(p.net, auto, name)
		return is
	}
	l := api.Loc{Name: p.fresh(len(p.net.Autos[auto].Locs), api.MaxLocs, taken)}
	switch {
	case p.accept("urgent"):
		l.Kind = api.Urgent
	case p.accept("committed"):
		l.Kind = api.Committed
	}
	if p.accept("inv") {
		l.Inv = p.guards()
	}
	p.expect(";")
	return l
}

func (p *parser) edge(auto int) api.Edge {
	e := api.Edge{From: p.location(auto)}
	p.expect("->")
	e.To = p.location(auto)
	if p.accept("when") {
		e.Guards, e.Test = p.when()
	}
	if p.accept("sync") {
		_, e.Chan = p.named(net.Channel)
		e.Send = p.expect("!", "?").Text == "!"
	}
	if p.accept("do") {
		e.Sets = p.sets()
	}
	p.expect(";")
	return e
}

func (p *parser) when() ([]api.Guard, []api.Node) {
	c := p.newConds()
	for more := true; more; more = p.accept("&&") {
		p.cond(c)
	}
	return c.guards, c.nodes()
}

func (p *parser) sets() []api.Set {
	var l []api.Set
	for more := true; more; more = p.accept(",") {
		first := p.token()
		kind, number := p.named(net.Clock, net.Variable)
		if len(l) == api.MaxSets {
			panic(fault{api.ErrLong, first.At})
		}
		p.expect(":=")
		l = append(l, p.set(kind, number))
	}
	return l
}

// set reads what a clock or a variable is to be.
func (p *parser) set(kind net.Kind, number int) api.Set {
	if kind == net.Clock {
		n, _ := p.num(api.MaxConst)
		return api.Set{Clock: number, N: n}
	}
	return api.Set{Var: number, Expr: p.limited(p.sum)().list()}
}
