package times

import (
	"slices"

	"gnomon/api"
	"gnomon/bound"
	"gnomon/expr"
	"gnomon/moves"
	"gnomon/state"
)

// statesOf are the first state of a right network, and that behind each move; false: one can't be done.
func statesOf(n api.Net, way ...api.Move) ([]api.State, bool) {
	// No error: the network is right.
	s, err := state.First(n)
	l := []api.State{s}
	for _, m := range way {
		if s, err = moves.After(n, s, m); err != api.OK {
			return nil, false
		}
		l = append(l, s)
	}
	return l, true
}

// isMet tells whether a part's locations and its test hold of a state; a test without a value does not.
func isMet(s api.State, g api.Part) bool {
	isElsewhere := func(at api.At) bool { return s.Locs[at.Auto] != at.Loc }
	holds, err := expr.Holds(g.Test, s.Vars)
	return err == api.OK && holds && !slices.ContainsFunc(g.Locs, isElsewhere)
}

// stop is what a state says of the time that passes in it.
type stop struct {
	stays      bool
	invariants []api.Guard
}

// stopIn asks for no error, as the state is one of the network.
func stopIn(n api.Net, s api.State) stop {
	invariants, _ := state.Invariants(n, s)
	return stop{state.Stays(n, s), invariants}
}

// mark is at which point a clock was set last, and to which number.
type mark struct {
	point, number int
}

// course is how far a way has been gone: the marks of the clocks (by their numbers), and the differences up to there.
type course struct {
	marks [api.MaxClocks + 1]mark
	diffs []api.Diff
}

// differences are those of a way that can be done, with the states on it.
func differences(n api.Net, states []api.State, way []api.Move, g api.Part) []api.Diff {
	var c course
	here := stopIn(n, states[0])
	c.hold(0, here.invariants...)
	for i, m := range way {
		p := i + 1
		c.wait(p, here)
		// No errors: a move that can be done is one of the network.
		guards, _ := moves.Guards(n, m)
		c.hold(p, guards...)
		sets, _ := moves.Resets(n, m)
		c.set(p, sets...)
		here = stopIn(n, states[p])
		c.hold(p, here.invariants...)
	}
	end := len(way) + 1
	c.wait(end, here)
	c.hold(end, g.Guards...)
	return c.diffs
}

// wait lets time pass up to a point.
func (c *course) wait(p int, s stop) {
	c.keep(atMost(p-1, p, 0))
	if !s.stays {
		c.keep(atMost(p, p-1, 0))
	}
	c.hold(p, s.invariants...)
}

// hold lets guards hold at a point.
func (c *course) hold(p int, guards ...api.Guard) {
	for _, g := range guards {
		r := c.marks[g.Clock].point
		v := g.N - c.marks[g.Clock].number
		switch g.Cmp {
		case api.Lt:
			c.keep(lessThan(p, r, v))
		case api.Le:
			c.keep(atMost(p, r, v))
		case api.Eq:
			c.keep(atMost(p, r, v), atMost(r, p, -v))
		case api.Ge:
			c.keep(atMost(r, p, -v))
		case api.Gt:
			c.keep(lessThan(r, p, -v))
		}
	}
}

// set sets clocks at a point.
func (c *course) set(p int, sets ...api.Set) {
	for _, s := range sets {
		c.marks[s.Clock] = mark{p, s.N}
	}
}

func (c *course) keep(l ...api.Diff) { c.diffs = append(c.diffs, l...) }

// atMost and lessThan ask for no error: constants are small.
func atMost(i, j, v int) api.Diff {
	b, _ := bound.AtMost(v)
	return api.Diff{I: i, J: j, Bound: b}
}

func lessThan(i, j, v int) api.Diff {
	b, _ := bound.LessThan(v)
	return api.Diff{I: i, J: j, Bound: b}
}
