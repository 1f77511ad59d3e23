package region

import (
	"slices"

	"gnomon/api"
	"gnomon/expr"
	"gnomon/moves"
	"gnomon/state"
)

// place is a state, and what is the same in all regions there.
type place struct {
	state      api.State
	key        []byte
	stays      bool // time may pass
	invariants []api.Guard
	aims       [][]api.Guard // of each part of the goal whose locations and test hold, its guards
}

// deed is what a move asks of clocks, and does with them, wherever it is done.
type deed struct {
	guards []api.Guard
	sets   []api.Set
}

// step is a move that is open in a state, and where it leads.
type step struct {
	deed
	to *place
}

// world is a network and a goal, and what was found out of states and moves, each once: as most states have many regions, and most moves are open in many states.
type world struct {
	net    api.Net
	goal   api.Goal
	places map[string]*place // by their keys
	steps  map[string][]step // by the keys of the places from which they lead
	deeds  map[api.Move]deed
}

func worldOf(n api.Net, g api.Goal) world {
	return world{net: n, goal: g, places: map[string]*place{}, steps: map[string][]step{}, deeds: map[api.Move]deed{}}
}

// at is the place of a state of the network.
func (w *world) at(s api.State) *place {
	// No errors: it is a state of the network.
	key, _ := state.Key(w.net, s)
	if p, known := w.places[string(key)]; known {
		return p
	}
	guards, _ := state.Invariants(w.net, s)
	p := &place{state: s, key: key, stays: state.Stays(w.net, s), invariants: guards}
	for _, part := range w.goal {
		if isThere(s, part) {
			p.aims = append(p.aims, part.Guards)
		}
	}
	w.places[string(key)] = p
	return p
}

// isThere tells whether the locations and the test of a part hold; a test without a value does not.
func isThere(s api.State, p api.Part) bool {
	holds, err := expr.Holds(p.Test, s.Vars)
	isElsewhere := func(at api.At) bool { return s.Locs[at.Auto] != at.Loc }
	return err == api.OK && holds && !slices.ContainsFunc(p.Locs, isElsewhere)
}

// stepsFrom are the moves that are open at a place, in order.
func (w *world) stepsFrom(p *place) []step {
	if l, known := w.steps[string(p.key)]; known {
		return l
	}
	var l []step
	for _, m := range moves.Enabled(w.net, p.state) {
		// No error: it is open.
		next, _ := moves.After(w.net, p.state, m)
		l = append(l, step{w.deedOf(m), w.at(next)})
	}
	w.steps[string(p.key)] = l
	return l
}

// deedOf is that of a move of the network.
func (w *world) deedOf(m api.Move) deed {
	if d, known := w.deeds[m]; known {
		return d
	}
	// No errors: it is a move of the network.
	guards, _ := moves.Guards(w.net, m)
	sets, _ := moves.Resets(w.net, m)
	d := deed{guards, sets}
	w.deeds[m] = d
	return d
}
