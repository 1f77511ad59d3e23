package replay

import (
	"slices"

	"gnomon/api"
	"gnomon/check"
	"gnomon/expr"
	"gnomon/moves"
	"gnomon/rat"
	"gnomon/state"
)

// wrong is the error of a network, or of a configuration of it.
func wrong(n api.Net, c Config) api.Errno {
	if err := check.Net(n); err != api.OK {
		return err
	}
	if !state.Right(n, c.State) || len(c.Clocks) != len(n.Clocks) || slices.ContainsFunc(c.Clocks, isNoTime) {
		return api.ErrState
	}
	return api.OK
}

// isNoTime tells whether a fraction can be no clock and no delay: it is not right, or below 0.
func isNoTime(r api.Rat) bool { return !rat.Right(r) || r.Num < 0 }

func copied(c Config) Config {
	own := c
	own.State.Locs = copyList(c.State.Locs)
	own.State.Vars = copyList(c.State.Vars)
	own.Clocks = copyList(c.Clocks)
	return own
}

func copyList[E any](l []E) []E {
	own := make([]E, len(l))
	copy(own, l)
	return own
}

// holds tells whether a guard holds.
func (c *Config) holds(g api.Guard) bool {
	side := rat.Compare(c.Clocks[g.Clock-1], rat.Of(g.N))
	switch g.Cmp {
	case api.Lt:
		return side < 0
	case api.Le:
		return side <= 0
	case api.Eq:
		return side == 0
	case api.Ge:
		return side >= 0
	}
	return side > 0
}

func (c *Config) keeps(guards ...api.Guard) bool {
	return !slices.ContainsFunc(guards, func(g api.Guard) bool { return !c.holds(g) })
}

// stands tells whether the invariants hold.
func (c *Config) stands(n api.Net) bool {
	// No error: it is a state of the network.
	guards, _ := state.Invariants(n, c.State)
	return c.keeps(guards...)
}

// wait lets each clock have more; false: it cannot be held.
func (c *Config) wait(d api.Rat) bool {
	for i, x := range c.Clocks {
		later, err := rat.Add(x, d)
		if err != api.OK {
			return false
		}
		c.Clocks[i] = later
	}
	return true
}

// enter leads to the state behind a move; false: its tests or the sets of variables do not let it.
func (c *Config) enter(n api.Net, m api.Move) bool {
	next, err := moves.After(n, c.State, m)
	c.State = next
	return err == api.OK
}

// pass sets the clocks that a move of the network sets; false: a guard does not hold.
func (c *Config) pass(n api.Net, m api.Move) bool {
	// No errors: it is a move of the network.
	guards, _ := moves.Guards(n, m)
	if !c.keeps(guards...) {
		return false
	}
	sets, _ := moves.Resets(n, m)
	for _, s := range sets {
		c.Clocks[s.Clock-1] = rat.Of(s.N)
	}
	return true
}

// meets tells whether a part of a goal holds; a test without a value does not.
func (c *Config) meets(p api.Part) bool {
	isElsewhere := func(at api.At) bool { return c.State.Locs[at.Auto] != at.Loc }
	holds, err := expr.Holds(p.Test, c.State.Vars)
	return err == api.OK && holds && !slices.ContainsFunc(p.Locs, isElsewhere) && c.keeps(p.Guards...)
}

// end is how much time is left, and whether just so much may pass.
type end struct {
	left api.Rat
	just bool
}

// ends are those to which the invariants hold time up.
func (c *Config) ends(n api.Net) []end {
	var l []end
	// No error: it is a state of the network.
	guards, _ := state.Invariants(n, c.State)
	for _, g := range guards {
		left, err := rat.Sub(rat.Of(g.N), c.Clocks[g.Clock-1])
		if g.Cmp == api.Ge || g.Cmp == api.Gt || err != api.OK {
			continue
		}
		l = append(l, end{left, g.Cmp != api.Lt})
	}
	return l
}

// sooner tells which of two ends comes first: of one time, that which may not be reached.
func sooner(a, b end) int {
	switch side := rat.Compare(a.left, b.left); {
	case side != 0 || a == b:
		return side
	case a.just:
		return 1
	}
	return -1
}
