package shell

import (
	"gnomon/api"
	"gnomon/check"
	"gnomon/moves"
	"gnomon/net"
	"gnomon/parse"
	"gnomon/plans"
	"gnomon/query"
	"gnomon/run"
	"gnomon/state"
)

// netOf is the network that an order names.
func (s *shell) netOf(o order) api.Net { return s.nets[o.names[0]] }

func (s *shell) read(o order) string {
	n, err, at := parse.Net(o.rest)
	if err != api.OK {
		return failed(err, at)
	}
	s.nets[o.names[0]] = n
	if err := check.Net(n); err != api.OK {
		return line(checkWord, errnoText(err))
	}
	return line(okWord)
}

func (s *shell) show(o order) string {
	text, err := net.Print(s.netOf(o))
	if err != api.OK {
		return failed(err)
	}
	return text
}

func (s *shell) greatest(o order) string {
	n := s.netOf(o)
	var g api.Goal
	if o.hasWord() {
		goal, err, at := parse.Goal(n, o.rest)
		if err != api.OK {
			return failed(err, at)
		}
		g = goal
	}
	// A goal of no part is right for each right network: so of a missing one this is the network's error.
	if err := check.Goal(n, g); err != api.OK {
		return failed(err)
	}
	return line(append([]string{maxWord}, texts(check.Max(n, g)...)...)...)
}

func (s *shell) ask(o order) string { return s.told(o, plans.None, false) }

func (s *shell) askByPlan(o order) string { return s.told(o, o.numbers[0], true) }

// told is what is told of an order's question, by the plan of a number.
func (s *shell) told(o order, plan int, last bool) string {
	n := s.netOf(o)
	q, err, at := query.Parse(n, o.rest)
	if err != api.OK {
		return failed(err, at)
	}
	p, err := plans.Of(plan, n, q.Goal)
	if err != api.OK {
		return failed(err)
	}
	// The question is right, and so is the plan: what may still come up is that there are too many zones. That is no error here: it is unknown then.
	told := query.Ask(n, q, query.Way{Last: last, Plan: p})[0]
	answer := line(append([]string{verdictText(told)}, texts(told.Stored, told.Pops)...)...)
	if told.Verdict != api.Reachable {
		return answer
	}
	way, _ := run.Print(n, told.Run)
	return answer + way
}

func verdictText(t query.Told) string {
	if t.Verdict == api.Unknown {
		return unknownWord
	}
	return yesOrNo(t.Holds)
}

func (s *shell) firstMoves(o order) string {
	n := s.netOf(o)
	// No errors: what parse has told is whole.
	first, _ := state.First(n)
	open := moves.Enabled(n, first)
	if len(open) == 0 {
		return line(noneWord)
	}
	text, _ := moves.Print(n, open...)
	return line(movesWord, text)
}
