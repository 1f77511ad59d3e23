package check

import (
	"iter"
	"slices"

	"gnomon/api"
)

// none is the greatest number of a clock that is held against no number.
const none = -1

// place is where guards and sets stand: a location, an edge, or a part of a goal, which has no Spot.
type place struct {
	Spot
	guards []api.Guard
	sets   []api.Set
}

// netPlaces yields the places of a network: automaton by automaton its locations, then its edges.
func netPlaces(n api.Net) iter.Seq[place] {
	return func(yield func(place) bool) {
		for i, a := range n.Autos {
			for j, l := range a.Locs {
				if !yield(place{Spot{i, j, -1}, l.Inv, nil}) {
					return
				}
			}
			for j, e := range a.Edges {
				if !yield(place{Spot{i, -1, j}, e.Guards, e.Sets}) {
					return
				}
			}
		}
	}
}

// goalPlaces yields the parts of goals.
func goalPlaces(goals ...api.Goal) iter.Seq[place] {
	return func(yield func(place) bool) {
		for _, g := range goals {
			for _, p := range g {
				if !yield(place{guards: p.Guards}) {
					return
				}
			}
		}
	}
}

// firstWrong is the error of some places that is named first, and the first place that has it.
func firstWrong(places iter.Seq[place]) (Spot, api.Errno) {
	for p := range places {
		if slices.ContainsFunc(p.guards, hasOther) {
			return p.Spot, api.ErrDiagonal
		}
	}
	for p := range places {
		if slices.ContainsFunc(p.guards, isGuardOutside) || slices.ContainsFunc(p.sets, isSetOutside) {
			return p.Spot, api.ErrConst
		}
	}
	return Spot{}, api.OK
}

func hasOther(g api.Guard) bool { return g.Other != 0 }

func isGuardOutside(g api.Guard) bool { return isOutside(g.N) }

// isSetOutside asks for sets of clocks alone: the N of a variable's set is no constant.
func isSetOutside(s api.Set) bool { return s.Clock != 0 && isOutside(s.N) }

func isOutside(n int) bool { return n < 0 || n > api.MaxConst }

// greatest are, for each clock, the greatest number of the guards with such a Cmp; nothing, if the network or a goal is not right.
func greatest(such func(api.Cmp) bool, n api.Net, goals ...api.Goal) []int {
	if Net(n) != api.OK {
		return nil
	}
	if slices.ContainsFunc(goals, func(g api.Goal) bool { return goalOfRight(n, g) != api.OK }) {
		return nil
	}
	numbers := slices.Repeat([]int{none}, len(n.Clocks))
	raise := func(g api.Guard) {
		if such(g.Cmp) {
			numbers[g.Clock-1] = max(numbers[g.Clock-1], g.N)
		}
	}
	handGuards(netPlaces(n), raise)
	handGuards(goalPlaces(goals...), raise)
	return numbers
}

// handGuards hands each guard of some places to a function.
func handGuards(places iter.Seq[place], to func(api.Guard)) {
	for p := range places {
		for _, g := range p.guards {
			to(g)
		}
	}
}
