package search

import (
	"fmt"
	"maps"
	"math/rand/v2"
	"slices"
	"testing"

	"gnomon/api"
	"gnomon/check"
	"gnomon/moves"
	"gnomon/state"
)

// eachNet hands networks at random, and goals of them, to a function.
func eachNet(seed uint64, many int, try func(r *rand.Rand, n api.Net, g api.Goal)) {
	r := source(seed)
	for k := range many {
		n := someNet(r, k%(clocks+1), 3)
		try(r, n, someGoal(r, n, 5))
	}
}

// eachSearch hands searches of such networks, by plans and both orders, to a function.
func eachSearch(t *testing.T, seed uint64, many int, try func(r *rand.Rand, n api.Net, g api.Goal, p api.Plan, last bool)) {
	t.Helper()
	eachNet(seed, many, func(r *rand.Rand, n api.Net, g api.Goal) {
		for _, p := range rightPlans(t, r, n, g) {
			try(r, n, g, p, false)
			try(r, n, g, p, true)
		}
	})
}

// TestP17_3Runs (E4): the way to the node that is found is that of a run, which reaches the part that is told; and that is the first one of which that is so.
func TestP17_3Runs(t *testing.T) {
	counts := map[string]int{}
	eachSearch(t, 1, 300, func(r *rand.Rand, n api.Net, g api.Goal, p api.Plan, last bool) {
		s := begun(t, n, g, p, last)
		v, _ := s.Go(api.MaxZones)
		found, part := s.Found()
		if (v == api.Reachable) != (found >= 0) || (found >= 0) != (part >= 0) {
			t.Fatal(v, found, part)
		}
		l := s.Nodes()
		for i, d := range l {
			way := wayTo(l, i)
			if !canRun(n, way, api.Part{}) {
				t.Fatal(n, p, i, way)
			}
			if d.Popped < 0 {
				continue
			}
			// Each node that is popped meets what its own runs reach, and no more.
			for k, x := range g {
				is := canRun(n, way, x)
				if must := i == found && k == part; must != is && (i != found || k <= part) {
					t.Fatal(n, g, p, i, k, way, is)
				}
			}
		}
		if v == api.Reachable {
			counts[fmt.Sprint("part ", part)]++
			counts[fmt.Sprint("way ", min(3, len(wayTo(l, found))))]++
		}
	})
	for _, word := range []string{"part 0", "part 1", "part 2", "way 0", "way 1", "way 2", "way 3"} {
		if counts[word] < 30 {
			t.Error(counts)
		}
	}
}

// TestP17_4Regions (E5, E6): the verdict is that of a search region by region, by whatever plan and order.
func TestP17_4Regions(t *testing.T) {
	counts := map[api.Verdict]int{}
	eachNet(2, 400, func(r *rand.Rand, n api.Net, g api.Goal) {
		want := byRegions(n, g, check.Max(n, g))
		for k, p := range rightPlans(t, r, n, g) {
			v, err := begun(t, n, g, p, k%2 == 0).Go(api.MaxZones)
			if want != v && want != api.Unknown && v != api.Unknown || (v == api.Unknown) != (err != api.OK) {
				t.Fatal(n, g, p, v, want)
			}
		}
		counts[want]++
	})
	if counts[api.Reachable] < 80 || counts[api.Unreachable] < 150 {
		t.Error(counts)
	}
}

// TestP17_4Lie (E5): of a search that says Unreachable each configuration of a run lies in a zone of a node of its state.
func TestP17_4Lie(t *testing.T) {
	many, far := 0, 0
	eachSearch(t, 3, 150, func(r *rand.Rand, n api.Net, g api.Goal, p api.Plan, last bool) {
		s := begun(t, n, g, p, last)
		if v, _ := s.Go(api.MaxZones); v == api.Unreachable {
			many++
			far = max(far, stroll(t, r, n, g, s.Nodes()))
		}
	})
	if many < 500 || far < 10 {
		t.Error(many, far)
	}
}

// stroll does a run at random, holds each configuration against nodes, and tells how many moves it did.
func stroll(t testing.TB, r *rand.Rand, n api.Net, g api.Goal, l []Node) int {
	t.Helper()
	s, _ := state.First(n)
	v := place{4, make([]int64, len(n.Clocks)+1)}
	done := 0
	for k := 0; k < 15 && v.holds(invariantsOf(n, s)...); k++ {
		if later := v.later(int64(r.IntN(12))); mayPass(n, s) && later.holds(invariantsOf(n, s)...) {
			v = later
		}
		if !slices.ContainsFunc(l, func(d Node) bool { return !d.Gone && state.Same(d.State, s) && v.in(d.Zone) }) {
			t.Fatal(n, s, v)
		}
		if slices.ContainsFunc(g, func(p api.Part) bool { return isThere(s, p) && v.holds(p.Guards...) }) {
			t.Fatal(n, g, s, v)
		}
		open := moves.Enabled(n, s)
		if len(open) == 0 {
			break
		}
		m := open[r.IntN(len(open))]
		next, _ := moves.After(n, s, m)
		if q := v.set(setsOf(n, m)...); v.holds(guardsOf(n, m)...) && q.holds(invariantsOf(n, next)...) {
			s, v = next, q
			done++
		}
	}
	return done
}

// TestP17_5Kept (E7): at each pop: no node is popped twice; of two of one state, neither Gone, none includes the other; what is Gone is included in one that is not.
func TestP17_5Kept(t *testing.T) {
	gone, alive := 0, 0
	look := func(s *Search) {
		l := s.Nodes()
		byPop := map[int]int{}
		for i, d := range l {
			if d.Popped >= 0 {
				byPop[d.Popped]++
			}
			covered := false
			for k, o := range l {
				if k == i || o.Gone || !state.Same(o.State, d.State) {
					continue
				}
				covered = covered || o.Zone.Includes(d.Zone)
				alive++
			}
			if covered != d.Gone || d.Gone && slices.Contains(s.Waiting(), i) || d.Zone.Empty() {
				t.Fatal(i, covered, textOf(s))
			}
			if d.Gone {
				gone++
			}
		}
		if len(byPop) != s.Pops() || slices.Max(append(slices.Collect(maps.Values(byPop)), 0)) > 1 {
			t.Fatal(byPop, s.Pops())
		}
	}
	eachSearch(t, 4, 60, func(r *rand.Rand, n api.Net, g api.Goal, p api.Plan, last bool) {
		s := begun(t, n, g, p, last)
		for range 40 {
			look(s)
			s.Go(1)
		}
	})
	s := sought(t, fischer(3, "> 2"), "P0.crit && P1.crit", false)
	s.Go(api.MaxZones)
	look(s)
	if gone < 100 || alive < 1000 {
		t.Error(gone, alive)
	}
}

// TestP17_6Pieces: Go with a fuel, and another one, is Go with both together; also where the one is 0 or below.
func TestP17_6Pieces(t *testing.T) {
	eachSearch(t, 5, 100, func(r *rand.Rand, n api.Net, g api.Goal, p api.Plan, last bool) {
		a, b := r.IntN(8), r.IntN(8)
		whole, pieces := begun(t, n, g, p, last), begun(t, n, g, p, last)
		v, err := whole.Go(a + b)
		pieces.Go(a)
		isTold(t, v, err)(pieces.Go(b))
		same(t, pieces, textOf(whole))
		isTold(t, v, err)(whole.Go(0))
		isTold(t, v, err)(whole.Go(-a))
		same(t, pieces, textOf(whole))
	})
}

// TestP17_7Ends: MaxZones and 1 always ends a search; one fuel more for each pop, and no more, is taken.
func TestP17_7Ends(t *testing.T) {
	eachSearch(t, 6, 60, func(r *rand.Rand, n api.Net, g api.Goal, p api.Plan, last bool) {
		s := begun(t, n, g, p, last)
		if v, err := s.Go(api.MaxZones + 1); err == api.ErrFuel || (v == api.Unknown) != (err == api.ErrZones) || s.Pops() > api.MaxZones {
			t.Fatal(n, v, err)
		}
		told := textOf(s)
		s.Go(1000)
		same(t, s, told)
	})
	// As many pops as there may be.
	for _, last := range []bool{false, true} {
		s := sought(t, "int n in 0 .. 4095 := 0; auto A { loc a; edge a -> a do n := n + 1; }", "", last)
		v, err := s.Go(api.MaxZones)
		isTold(t, v, err)(api.Unreachable, api.OK)
		if s.Pops() != api.MaxZones || len(s.Nodes()) != api.MaxZones {
			t.Error(s.Pops())
		}
	}
}

// TestE6Fischer: two are in at once just if the time to wait is not above the time to write.
func TestE6Fischer(t *testing.T) {
	for wait, want := range map[string]api.Verdict{"> 2": api.Unreachable, ">= 3": api.Unreachable, "== 3": api.Unreachable, ">= 2": api.Reachable, "> 1": api.Reachable, ">= 0": api.Reachable} {
		n := said(t, fischer(3, wait))
		g := aim(t, n, "P0.crit && P1.crit || P0.crit && P2.crit || P1.crit && P2.crit")
		for _, p := range rightPlans(t, source(7), n, g) {
			for _, last := range []bool{false, true} {
				s := begun(t, n, g, p, last)
				v, err := s.Go(api.MaxZones)
				isTold(t, v, err)(want, api.OK)
				if i, part := s.Found(); v == api.Reachable && !canRun(n, wayTo(s.Nodes(), i), g[part]) {
					t.Error(wait, i, part)
				}
			}
		}
	}
}
