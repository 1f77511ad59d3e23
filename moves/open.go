package moves

import (
	"slices"

	"gnomon/api"
	"gnomon/expr"
)

// values are what variables hold: an array, so that what is done with one is done with a copy, and the state stays as it is.
type values [api.MaxVars]int

func valuesOf(s api.State) values {
	var held values
	copy(held[:], s.Vars)
	return held
}

// outcome is what the variables hold behind a move, or why it is not open; of a right network, and a state of it.
func outcome(n api.Net, s api.State, m api.Move) (values, api.Errno) {
	l := halvesOf(n, m)
	if len(l) == 0 || !areHome(s, l...) || mustWait(n, s, l...) {
		return values{}, api.ErrMove
	}
	if !areTrue(s, l...) {
		return values{}, api.ErrGuard
	}
	held := valuesOf(s)
	for _, h := range l {
		for _, set := range h.Sets {
			if set.Clock == 0 && !held.give(n, set) {
				return values{}, api.ErrGuard
			}
		}
	}
	return held, api.OK
}

// give gives a variable the value of its set; false: it has none, or one that the variable may not have.
func (held *values) give(n api.Net, s api.Set) bool {
	v := n.Vars[s.Var]
	k, err := expr.Value(s.Expr, held[:len(n.Vars)])
	if err != api.OK || k < v.Lo || k > v.Hi {
		return false
	}
	held[s.Var] = k
	return true
}

func areHome(s api.State, l ...half) bool {
	return !slices.ContainsFunc(l, func(h half) bool { return !h.isHome(s) })
}

// areTrue tells whether the tests of halves hold; one without a value does not.
func areTrue(s api.State, l ...half) bool {
	for _, h := range l {
		if holds, err := expr.Holds(h.Test, s.Vars); err != api.OK || !holds {
			return false
		}
	}
	return true
}

// mustWait tells whether only others are in committed locations.
func mustWait(n api.Net, s api.State, l ...half) bool {
	return isSomeCommitted(n, s) && !slices.ContainsFunc(l, func(h half) bool { return isCommitted(n, s, h.auto) })
}

func isSomeCommitted(n api.Net, s api.State) bool {
	for auto := range n.Autos {
		if isCommitted(n, s, auto) {
			return true
		}
	}
	return false
}

func isCommitted(n api.Net, s api.State, auto int) bool {
	return n.Autos[auto].Locs[s.Locs[auto]].Kind == api.Committed
}
