package succ

import (
	"slices"

	"gnomon/api"
	"gnomon/dbm"
	"gnomon/expr"
	"gnomon/extra"
	"gnomon/moves"
	"gnomon/ops"
	"gnomon/state"
)

// row is what is done with a zone, one thing behind the other.
type row []func(*dbm.Zone) (*dbm.Zone, api.Errno)

// through is what becomes of a zone by rows, one behind the other; the first error ends it.
func through(z *dbm.Zone, rows ...row) (*dbm.Zone, api.Errno) {
	err := api.OK
way:
	for _, r := range rows {
		for _, do := range r {
			if z, err = do(z); err != api.OK {
				break way
			}
		}
	}
	return z, err
}

// keep leaves what keeps all of some guards. They are handed on together: what some of them leave is no zone on the way, so its cells may be any.
func keep(l ...api.Guard) func(*dbm.Zone) (*dbm.Zone, api.Errno) {
	return func(z *dbm.Zone) (*dbm.Zone, api.Errno) { return ops.Guards(z, l...) }
}

func set(s api.Set) func(*dbm.Zone) (*dbm.Zone, api.Errno) {
	return func(z *dbm.Zone) (*dbm.Zone, api.Errno) { return ops.Reset(z, s.Clock, s.N) }
}

func widen(w Widen) func(*dbm.Zone) (*dbm.Zone, api.Errno) {
	return func(z *dbm.Zone) (*dbm.Zone, api.Errno) { return extra.LU(z, w.Lo, w.Up) }
}

// waiting is what is done with a zone when time passes in a state. Where it may not, the zone is left as it is, but as a new one.
func waiting(n api.Net, s api.State) row {
	if !state.Stays(n, s) {
		return row{keep()}
	}
	return row{ops.Up, keep(invariants(n, s)...)}
}

// moving is the state behind a move, and what is done with the zone on the way there; of a right network.
func moving(n api.Net, s api.State, z *dbm.Zone, m api.Move) (api.State, row, api.Errno) {
	if err := fits(n, s, z); err != api.OK {
		return api.State{}, nil, err
	}
	next, err := moves.After(n, s, m)
	if err != api.OK {
		return api.State{}, nil, err
	}
	// A move that is open is one of the network: so it has both.
	guards, _ := moves.Guards(n, m)
	sets, _ := moves.Resets(n, m)
	r := row{keep(guards...)}
	for _, one := range sets {
		r = append(r, set(one))
	}
	return next, append(r, keep(invariants(n, next)...)), api.OK
}

// fits says why a zone can't be one of a state of a right network.
func fits(n api.Net, s api.State, z *dbm.Zone) api.Errno {
	switch {
	case !state.Right(n, s):
		return api.ErrState
	case z == nil:
		return api.ErrNil
	case z.Dim() != len(n.Clocks):
		return api.ErrDim
	}
	return api.OK
}

// invariants asks for no error, as the state is one of the network.
func invariants(n api.Net, s api.State) []api.Guard {
	guards, _ := state.Invariants(n, s)
	return guards
}

// holds tells whether a part of a goal holds of a state; a test without a value does not.
func holds(s api.State, g api.Part) bool {
	isElsewhere := func(at api.At) bool { return s.Locs[at.Auto] != at.Loc }
	is, err := expr.Holds(g.Test, s.Vars)
	return err == api.OK && is && !slices.ContainsFunc(g.Locs, isElsewhere)
}

// never is kept by nothing: 0, less itself, is below 0.
func never() api.Limit { return api.Limit{Bound: 0} }
