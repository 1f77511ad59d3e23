package search

import (
	"gnomon/api"
	"gnomon/dbm"
	"gnomon/moves"
	"gnomon/state"
	"gnomon/succ"
)

// pop looks at the next node: the goal is found, or what is behind its moves is kept. Something waits: else the verdict would be told.
func (s *Search) pop() {
	i := s.take()
	s.pops++
	d := s.node(i)
	if part := s.met(d); part != none {
		s.found, s.part = i, part
		return
	}
	for _, m := range moves.Enabled(s.net, d.State) {
		// No error: the move is open, and widened zones stay within the bounds.
		next, z, _ := succ.Behind(s.net, s.plan, d.State, d.Zone, m)
		if s.keep(origin{next, i, m}, z); s.over {
			return
		}
	}
}

// keep stores a node, if its zone has something; where there are as many as may be, the search is over.
func (s *Search) keep(o origin, z *dbm.Zone) {
	if z.Empty() {
		return
	}
	// No error: it is a state of the network.
	key, _ := state.Key(s.net, o.state)
	s.over = s.put(key, o, z) != api.OK
}
