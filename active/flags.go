package active

import (
	"slices"

	"gnomon/api"
)

// row says of each clock (from index 0 on) whether something is so.
type row [api.MaxClocks]bool

// flags are the rows of an automaton's locations.
type flags [api.MaxLocs]row

// activeAt says where clocks are active: from where they are used it is gone back along the edges, round by round, till nothing changes.
func activeAt(a api.Auto, g ...api.Goal) flags {
	now := usedAt(a, g...)
	for {
		next := backAlong(now, a.Edges)
		if next == now {
			return now
		}
		now = next
	}
}

// usedAt says where clocks are used.
func usedAt(a api.Auto, g ...api.Goal) flags {
	var f flags
	use := func(loc int, guards []api.Guard) {
		for _, x := range guards {
			f[loc][x.Clock-1] = true
		}
	}
	parts := slices.Concat(g...)
	for loc, l := range a.Locs {
		use(loc, l.Inv)
		for _, part := range parts {
			use(loc, part.Guards)
		}
	}
	for _, e := range a.Edges {
		use(e.From, e.Guards)
	}
	return f
}

// backAlong says what is active by flags, and by what is active at the ends of edges.
func backAlong(f flags, edges []api.Edge) flags {
	for _, e := range edges {
		for i, is := range f[e.To] {
			if is && !doesSet(e, i+1) {
				f[e.From][i] = true
			}
		}
	}
	return f
}

func doesSet(e api.Edge, clock int) bool {
	return slices.ContainsFunc(e.Sets, func(s api.Set) bool { return s.Clock == clock })
}
