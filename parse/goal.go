package parse

import (
	"gnomon/api"
	"gnomon/lex"
	"gnomon/net"
)

func (p *parser) goal() api.Goal {
	var g api.Goal
	for more := true; more; more = p.accept("||") {
		if len(g) == api.MaxGoal {
			panic(p.onePartMore())
		}
		g = append(g, p.part())
	}
	return g
}

// onePartMore is the fault of the token here, which would begin a part more than may be; if it can't begin one, that is told first.
func (p *parser) onePartMore() fault {
	t := p.token()
	kind, _ := p.find()
	switch {
	case t.Kind == lex.Number, p.is("true", "!", "(", "-"):
	case t.Kind != lex.Word:
		return p.unfit()
	case kind != net.Clock && kind != net.Variable && kind != net.Automaton:
		return fault{api.ErrName, t.At}
	}
	return fault{api.ErrLong, t.At}
}

func (p *parser) part() api.Part {
	c := p.newConds()
	var locs []api.At
	for more := true; more; more = p.accept("&&") {
		if kind, _ := p.find(); kind == net.Automaton {
			locs = p.at(locs)
		} else {
			p.cond(c)
		}
	}
	return api.Part{Locs: locs, Guards: c.guards, Test: c.nodes()}
}

// at reads one location of a part more.
func (p *parser) at(l []api.At) []api.At {
	first := p.token()
	_, auto := p.named(net.Automaton)
	if len(l) == api.MaxGoal {
		panic(fault{api.ErrLong, first.At})
	}
	p.expect(".")
	return append(l, api.At{Auto: auto, Loc: p.location(auto)})
}
