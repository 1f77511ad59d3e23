package search

import (
	"cmp"
	"fmt"
	"math"
	"slices"

	"gnomon/api"
	"gnomon/moves"
	"gnomon/state"
)

// clocks is how many clocks a region has at most.
const clocks = 3

// above is the whole part of a clock that is above all that it is held against.
const above = -1

// region is valuations that no guard tells apart, now or later: of each clock its whole part, and whose fractions are greater; rank 0: it has none.
type region struct {
	whole, rank [clocks]int
}

// even gives the ranks the least numbers that have their order.
func (g region) even() region {
	var l []int
	for c := range g.rank {
		if g.whole[c] == above {
			g.rank[c] = 0
		}
		if g.rank[c] > 0 {
			l = append(l, g.rank[c])
		}
	}
	slices.Sort(l)
	l = slices.Compact(l)
	for c, rank := range g.rank {
		if rank > 0 {
			g.rank[c] = 1 + slices.Index(l, rank)
		}
	}
	return g
}

func (g region) set(most []int, c, n int) region {
	g.whole[c], g.rank[c] = n, 0
	if n > most[c] {
		g.whole[c] = above
	}
	return g.even()
}

// later is the next region when time passes; false: it is this one for ever.
func (g region) later(most []int) (region, bool) {
	top := 0
	for c := range most {
		top = max(top, g.rank[c])
	}
	next, at := g, false
	for c := range most {
		switch {
		case g.whole[c] == above:
		case g.rank[c] > 0:
			next.rank[c]++
		case g.whole[c] == most[c]:
			next.whole[c], at = above, true
		default:
			next.rank[c], at = 1, true
		}
	}
	if at {
		return next.even(), true
	}
	for c := range most {
		if top > 0 && g.rank[c] == top {
			g.whole[c], g.rank[c] = g.whole[c]+1, 0
		}
	}
	return g.even(), top > 0
}

func (g region) holds(l ...api.Guard) bool {
	for _, x := range l {
		c := 1
		if whole := g.whole[x.Clock-1]; whole != above {
			c = cmp.Or(cmp.Compare(whole, x.N), g.rank[x.Clock-1])
		}
		if !isSo(c, x.Cmp) {
			return false
		}
	}
	return true
}

// spot is a state and a region.
type spot struct {
	key string
	region
}

// byRegions is the verdict, found region by region; Unknown, if there are too many. Goals are such as someGoal makes.
func byRegions(n api.Net, g api.Goal, most []int) api.Verdict {
	first, _ := state.First(n)
	var begin region
	for c := range most {
		begin = begin.set(most, c, 0)
	}
	var all []spot
	seen := map[spot]bool{}
	add := func(s api.State, r region) {
		key, _ := state.Key(n, s)
		if at := (spot{string(key), r}); r.holds(invariantsOf(n, s)...) && !seen[at] {
			seen[at] = true
			all = append(all, at)
		}
	}
	add(first, begin)
	for i := 0; i < len(all); i++ {
		if i > 20000 {
			return api.Unknown
		}
		s, _ := state.Of(n, []byte(all[i].key))
		r := all[i].region
		if slices.ContainsFunc(g, func(p api.Part) bool { return isThere(s, p) && r.holds(p.Guards...) }) {
			return api.Reachable
		}
		if later, some := r.later(most); some && mayPass(n, s) {
			add(s, later)
		}
		for _, m := range moves.Enabled(n, s) {
			if r.holds(guardsOf(n, m)...) {
				behind := r
				for _, x := range setsOf(n, m) {
					behind = behind.set(most, x.Clock-1, x.N)
				}
				next, _ := moves.After(n, s, m)
				add(next, behind)
			}
		}
	}
	return api.Unreachable
}

// times are bounds of differences of points of time, as numbers of the type Bound; the greatest number: none.
type times [][]int64

func timesOf(points int) times {
	l := make(times, points)
	for i := range l {
		l[i] = slices.Repeat([]int64{math.MaxInt64}, points)
		l[i][i] = 1
	}
	return l
}

func (l times) bound(i, j int, b int64) { l[i][j] = min(l[i][j], b) }

// guard bounds the time p by a guard of a clock that was set to c at r.
func (l times) guard(g api.Guard, p, r, c int) {
	if g.Cmp <= api.Eq {
		l.bound(p, r, atMost(g.N-c, g.Cmp == api.Lt))
	}
	if g.Cmp >= api.Eq {
		l.bound(r, p, atMost(c-g.N, g.Cmp == api.Gt))
	}
}

func atMost(v int, less bool) int64 {
	if less {
		return 2 * int64(v)
	}
	return 2*int64(v) + 1
}

// some tells whether points keep all bounds: no way round comes to less than 0.
func (l times) some() bool {
	for k := range l {
		for i := range l {
			for j := range l {
				if a, b := l[i][k], l[k][j]; a != math.MaxInt64 && b != math.MaxInt64 {
					l.bound(i, j, a-a&1+b-b&1+a&b&1)
				}
			}
		}
	}
	for i := range l {
		if l[i][i] < 1 {
			return false
		}
	}
	return true
}

// canRun tells whether some run has these moves and reaches the part behind them: whether there are points of time for them that keep all that DOC.md asks.
func canRun(n api.Net, way []api.Move, g api.Part) bool {
	l := timesOf(len(way) + 2)
	at, to := make([]int, len(n.Clocks)+1), make([]int, len(n.Clocks)+1)
	hold := func(p int, guards ...api.Guard) {
		for _, x := range guards {
			l.guard(x, p, at[x.Clock], to[x.Clock])
		}
	}
	s, _ := state.First(n)
	hold(0, invariantsOf(n, s)...)
	for p := 1; p <= len(way)+1; p++ {
		l.bound(p-1, p, 1)
		if !mayPass(n, s) {
			l.bound(p, p-1, 1)
		}
		hold(p, invariantsOf(n, s)...)
		if p > len(way) {
			break
		}
		m := way[p-1]
		hold(p, guardsOf(n, m)...)
		for _, x := range setsOf(n, m) {
			at[x.Clock], to[x.Clock] = p, x.N
		}
		var err api.Errno
		if s, err = moves.After(n, s, m); err != api.OK {
			return false
		}
		hold(p, invariantsOf(n, s)...)
	}
	hold(len(way)+1, g.Guards...)
	return isThere(s, g) && l.some()
}

// wayTo is the way of parents to a node.
func wayTo(l []Node, i int) []api.Move {
	var way []api.Move
	for ; l[i].Parent != -1; i = l[i].Parent {
		if l[i].Parent >= i {
			panic(fmt.Sprint("a Parent behind its node: ", i))
		}
		way = append([]api.Move{l[i].Move}, way...)
	}
	return way
}
