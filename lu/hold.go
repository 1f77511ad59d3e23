package lu

import (
	"slices"

	"gnomon/api"
)

func isFromBelow(c api.Cmp) bool { return c == api.Ge || c == api.Gt || c == api.Eq }

func isFromAbove(c api.Cmp) bool { return c == api.Lt || c == api.Le || c == api.Eq }

// hold raises the numbers of an automaton's locations to those of the guards with such a Cmp: first where these stand, then back along the edges, round by round, till nothing changes.
func hold(rows [][]int, a api.Auto, such func(api.Cmp) bool, g ...api.Goal) {
	named(rows, a, such, g...)
	for backAlong(rows, a.Edges) {
	}
}

// named raises the numbers of each location to those that are named there.
func named(rows [][]int, a api.Auto, such func(api.Cmp) bool, g ...api.Goal) {
	hear := func(loc int, guards []api.Guard) {
		for _, x := range guards {
			if at := x.Clock - 1; such(x.Cmp) {
				rows[loc][at] = max(rows[loc][at], x.N)
			}
		}
	}
	parts := slices.Concat(g...)
	for loc, l := range a.Locs {
		hear(loc, l.Inv)
		for _, part := range parts {
			hear(loc, part.Guards)
		}
	}
	for _, e := range a.Edges {
		hear(e.From, e.Guards)
	}
}

// backAlong raises the numbers of where edges begin to those of where they end, and tells whether one has changed.
func backAlong(rows [][]int, edges []api.Edge) bool {
	both := raise(greater)
	changed := false
	for _, e := range edges {
		row := both(rows[e.From], unsaid(rows[e.To], e.Sets))
		changed = changed || !slices.Equal(row, rows[e.From])
		rows[e.From] = row
	}
	return changed
}

// unsaid are numbers without those of the clocks that sets give a new value.
func unsaid(row []int, sets []api.Set) []int {
	left := slices.Clone(row)
	for _, s := range sets {
		if s.Clock > 0 {
			left[s.Clock-1] = unheld
		}
	}
	return left
}
