package lu

import (
	"fmt"
	"math/rand/v2"
	"slices"
	"testing"

	"gnomon/active"
	"gnomon/api"
	"gnomon/check"
	"gnomon/region"
	"gnomon/search"
)

// eachNet hands networks at random, and goals of them, to a function.
func eachNet(seed uint64, clocks, many int, try func(r *rand.Rand, n api.Net, g ...api.Goal)) {
	r := source(seed)
	for k := range many {
		n := someNet(r, k%(clocks+1), 3)
		var goals []api.Goal
		for range r.IntN(3) {
			goals = append(goals, someGoal(r, n, 5))
		}
		for _, g := range append(goals, nil) {
			if err := check.Goal(n, g); err != api.OK {
				panic(err)
			}
		}
		try(r, n, goals...)
	}
}

// TestP26_1Model: At and Plan, held against ways that are gone forward.
func TestP26_1Model(t *testing.T) {
	counts := map[string]int{}
	eachNet(2, 4, 2000, func(r *rand.Rand, n api.Net, g ...api.Goal) {
		var want api.Plan
		for auto, a := range n.Autos {
			var los, ups [][]int
			for loc := range a.Locs {
				lo, up := wantNumbers(n, auto, loc, below, g...), wantNumbers(n, auto, loc, above, g...)
				areNumbers(t, lo, up)(At(n, auto, loc, g...))
				los, ups = append(los, lo), append(ups, up)
				for i := range lo {
					counts[fmt.Sprint(lo[i] < 0, up[i] < 0)]++
					if lo[i] != up[i] {
						counts["apart"]++
					}
				}
			}
			want.Lo, want.Up = append(want.Lo, los), append(want.Up, ups)
		}
		isPlan(t, want.Lo, want.Up)(Plan(n, g...))
		if t.Failed() {
			t.Fatal(n, g)
		}
	})
	if len(counts) != 5 {
		t.Error(counts)
	}
	for kind, many := range counts {
		if many < 500 {
			t.Error(kind, counts)
		}
	}
}

// TestP26_1Least: the numbers are such that the words hold of them, and none of them may be less.
func TestP26_1Least(t *testing.T) {
	come := 0
	eachNet(3, 4, 1000, func(r *rand.Rand, n api.Net, g ...api.Goal) {
		p, err := Plan(n, g...)
		if err != api.OK {
			t.Fatal(err)
		}
		for auto, a := range n.Autos {
			for loc := range a.Locs {
				for clock := 1; clock <= len(n.Clocks); clock++ {
					lo, up := mostNamed(a, loc, clock, below, g...), mostNamed(a, loc, clock, above, g...)
					for _, e := range a.Edges {
						sets := slices.ContainsFunc(e.Sets, func(s api.Set) bool { return s.Clock == clock })
						if e.From == loc && !sets {
							lo, up = max(lo, p.Lo[auto][e.To][clock-1]), max(up, p.Up[auto][e.To][clock-1])
						}
					}
					if p.Lo[auto][loc][clock-1] != lo || p.Up[auto][loc][clock-1] != up {
						t.Fatal(n, g, auto, loc, clock, p)
					}
					if lo > mostNamed(a, loc, clock, below, g...) {
						come++
					}
				}
			}
		}
	})
	if come < 500 {
		t.Error(come)
	}
	// Round a circle any number would do; the least is none.
	n := said(t, "clock x; auto A { loc a; loc b; edge a -> b; edge b -> a; edge a -> a; } auto B { loc a inv x < 3; }")
	isPlan(t, [][][]int{{{-1}, {-1}}, {{-1}}}, [][][]int{{{-1}, {-1}}, {{3}}})(Plan(n))
}

// verdict is what a search by a plan says; Unknown, if it came to too many zones.
func verdict(t testing.TB, n api.Net, g api.Goal, p api.Plan, last bool) (api.Verdict, int) {
	t.Helper()
	s, err := search.New(n, g, p, last)
	if err != api.OK {
		t.Fatal(n, g, p, err)
	}
	v, err := s.Go(api.MaxZones + 1)
	if err != api.OK && err != api.ErrZones {
		t.Fatal(n, g, p, err)
	}
	return v, len(s.Nodes())
}

// TestP26_3Search (E6): a search by the plan says what one by Uniform says, and what regions say; so does one by what is joined to it.
func TestP26_3Search(t *testing.T) {
	counts, fewer := map[api.Verdict]int{}, 0
	eachNet(4, 3, 1000, func(r *rand.Rand, n api.Net, l ...api.Goal) {
		g := slices.Concat(l...)
		p, err := Plan(n, g)
		if err != api.OK || !Right(n, p) {
			t.Fatal(n, g, p, err)
		}
		want, _, no := region.Reach(n, g)
		if no == api.ErrFull {
			want = api.Unknown
		}
		other := filled(p, func() int { return r.IntN(9) - 1 })
		joined, err := Join(p, other)
		if err != api.OK || !Right(n, joined) || !Right(n, other) {
			t.Fatal(n, p, other, joined, err)
		}
		again, err := Join(filled(p, func() int { return max(-1, r.IntN(20)-16) }), other, p)
		if err != api.OK {
			t.Fatal(err)
		}
		last := r.IntN(2) == 0
		for _, plan := range []api.Plan{uniform(t, n, g), p, joined, again} {
			for _, side := range []bool{last, !last} {
				v, _ := verdict(t, n, g, plan, side)
				if v == api.Unknown {
					continue
				}
				if want == api.Unknown {
					want = v
				}
				if v != want {
					t.Fatal(n, g, plan, v, want)
				}
				if counts[v]++; !Wider(uniform(t, n, g), plan) {
					fewer++
				}
			}
		}
	})
	if counts[api.Reachable] < 2000 || counts[api.Unreachable] < 2000 || fewer < 2000 {
		t.Error(counts, fewer)
	}
}

// TestP26_3Ends: goals just at, and just beyond, what the network lets be come to, with numbers that come along edges and round circles.
func TestP26_3Ends(t *testing.T) {
	for _, w := range []struct {
		net, goal string
		want      api.Verdict
	}{
		{small, "A.b", api.Reachable}, {small, "A.b && x > 7", api.Reachable}, {small, "A.a && x > 5", api.Unreachable}, {small, "A.a && x >= 5", api.Reachable}, {small, "true", api.Reachable},
		{"clock x, y; auto A { loc a inv x <= 2; loc b; loc c; edge a -> b when x >= 2 do y := 0; edge b -> c when y >= 3 && x <= 4; }", "A.c", api.Unreachable}, {"clock x, y; auto A { loc a inv x <= 2; loc b; loc c; edge a -> b when x >= 2 do y := 0; edge b -> c when y >= 3 && x <= 5; }", "A.c", api.Reachable},
		{"clock x, y; auto A { loc a inv x <= 2; loc b; loc c; loc d; edge a -> a when x == 2 do x := 0; edge a -> b when x == 1; edge b -> c do x := 0; edge c -> d when y == 10 && x < 1; }", "A.d", api.Reachable}, {"clock x, y; auto A { loc a inv x <= 2; loc b urgent; loc c urgent; loc d; edge a -> a when x == 2 do x := 0; edge a -> b when x == 1; edge b -> c; edge c -> d when y == 10; }", "A.d", api.Unreachable}, {"clock x, y; auto A { loc a inv x <= 2; loc b urgent; loc c urgent; loc d; edge a -> a when x == 2 do x := 0; edge a -> b when x == 1; edge b -> c; edge c -> d when y == 11; }", "A.d", api.Reachable},
		{"clock x; auto A { loc a; loc b; edge a -> b when x >= 3; } auto B { loc a; loc b; edge a -> b when x <= 2; }", "A.b && B.b", api.Reachable}, {"clock x; int n in 0 .. 1 := 0; auto A { loc a; loc b; edge a -> b when x >= 3 do n := 1; } auto B { loc a; loc b; edge a -> b when x <= 2 && n == 1; }", "A.b && B.b", api.Unreachable},
	} {
		n := said(t, w.net)
		g := aim(t, n, w.goal)
		p, err := Plan(n, g)
		if err != api.OK {
			t.Fatal(err)
		}
		for _, last := range []bool{false, true} {
			if v, _ := verdict(t, n, g, p, last); v != w.want {
				t.Error(w.net, w.goal, v)
			}
			if v, _ := verdict(t, n, g, uniform(t, n, g), last); v != w.want {
				t.Error(w.net, w.goal, v)
			}
		}
	}
}

// TestP26_3Fewer: where a clock is held from one side alone, or by smaller numbers, fewer zones are stored.
func TestP26_3Fewer(t *testing.T) {
	// x goes on and on; at a only the edge to b asks for it, from below, and at b it is held against 50 from above.
	n := said(t, "clock x, y; auto A { loc a inv y <= 1; loc b; edge a -> a when y == 1 do y := 0; edge a -> b when x >= 2 do x := 0; edge b -> b when x <= 50; }")
	p, err := Plan(n)
	isPlan(t, [][][]int{{{2, 1}, {-1, -1}}}, [][][]int{{{-1, 1}, {50, -1}}})(p, err)
	v, few := verdict(t, n, nil, p, false)
	u, all := verdict(t, n, nil, uniform(t, n), false)
	if v != api.Unreachable || u != v || few >= all || few > 10 {
		t.Error(v, few, u, all)
	}
}

// TestP26_4Numbers: no number is above check.Lower, check.Upper; some are just so; and there is none in both just where active has none.
func TestP26_4Numbers(t *testing.T) {
	counts := map[string]int{}
	eachNet(5, 4, 2000, func(r *rand.Rand, n api.Net, g ...api.Goal) {
		p, err := Plan(n, g...)
		q, no := active.Plan(n, g...)
		if err != api.OK || no != api.OK {
			t.Fatal(err, no)
		}
		lower, upper := check.Lower(n, g...), check.Upper(n, g...)
		mostLo, mostUp := slices.Repeat([]int{-1}, len(lower)), slices.Repeat([]int{-1}, len(upper))
		for auto, a := range n.Autos {
			for loc := range a.Locs {
				for i := range n.Clocks {
					lo, up := p.Lo[auto][loc][i], p.Up[auto][loc][i]
					if lo > lower[i] || up > upper[i] || lo < -1 || up < -1 {
						t.Fatal(n, g, lo, up, lower, upper)
					}
					if (max(lo, up) == -1) != (q.Lo[auto][loc][i] == -1) || max(lo, up) > q.Lo[auto][loc][i] {
						t.Fatal(n, g, lo, up, q)
					}
					mostLo[i], mostUp[i] = max(mostLo[i], lo), max(mostUp[i], up)
					switch {
					case max(lo, up) == -1:
						counts["none"]++
					case min(lo, up) == -1:
						counts["one side"]++
					default:
						counts["both"]++
					}
					if lo < lower[i] || up < upper[i] {
						counts["less"]++
					}
				}
			}
		}
		// Each guard of an automaton stands at a location of its own: so the greatest numbers are there.
		if !slices.Equal(mostLo, lower) || !slices.Equal(mostUp, upper) {
			t.Fatal(n, g, p, lower, upper)
		}
	})
	for _, kind := range []string{"none", "one side", "both", "less"} {
		if counts[kind] < 500 {
			t.Error(kind, counts)
		}
	}
}

// TestP26_4Goal: with a goal more no number is smaller.
func TestP26_4Goal(t *testing.T) {
	more := 0
	eachNet(6, 4, 800, func(r *rand.Rand, n api.Net, g ...api.Goal) {
		p, _ := Plan(n, g...)
		q, err := Plan(n, slices.Insert(slices.Clone(g), r.IntN(len(g)+1), someGoal(r, n, 5))...)
		if err != api.OK || !Wider(p, q) {
			t.Fatal(n, g, p, q, err)
		}
		if !Wider(q, p) {
			more++
		}
	})
	if more < 100 {
		t.Error(more)
	}
}

// somePlan is one with small numbers; those with the same rows come up again and again.
func somePlan(r *rand.Rand, rows, top int) api.Plan {
	p := []api.Plan{{Lo: [][][]int{{{0, 0}}}, Up: [][][]int{{{0, 0}}}}, {Lo: [][][]int{{{0}, {0}}}, Up: [][][]int{{{0}, {0}}}}, {Lo: [][][]int{{{0}}}, Up: [][][]int{{{0}, nil}}}, {}}[rows]
	return filled(p, func() int { return r.IntN(top) - 1 })
}

// TestP26_5Join: each plan is wider than Join, or like it; and of those of which that is so Join is the least.
func TestP26_5Join(t *testing.T) {
	r := source(7)
	counts := map[bool]int{}
	for range 20000 {
		rows := r.IntN(4)
		var l []api.Plan
		for range 1 + r.IntN(3) {
			l = append(l, somePlan(r, rows, 3))
		}
		j, err := Join(l[0], l[1:]...)
		if err != api.OK {
			t.Fatal(l, err)
		}
		for _, p := range l {
			if !Wider(p, j) {
				t.Fatal(l, j)
			}
		}
		bound := somePlan(r, rows, 4)
		above := !slices.ContainsFunc(l, func(p api.Plan) bool { return !Wider(p, bound) })
		if counts[above]++; above != Wider(j, bound) {
			t.Fatal(l, j, bound)
		}
		// In whatever order, and by halves.
		r.Shuffle(len(l), func(a, b int) { l[a], l[b] = l[b], l[a] })
		k, _ := Join(l[0], l[1:]...)
		half, _ := Join(j, l...)
		if fmt.Sprint(k) != fmt.Sprint(j) || fmt.Sprint(half) != fmt.Sprint(j) {
			t.Fatal(l, j, k, half)
		}
	}
	if counts[true] < 1000 || counts[false] < 1000 {
		t.Error(counts)
	}
}

// TestP26_5Order: Wider is an order.
func TestP26_5Order(t *testing.T) {
	r := source(8)
	counts := map[string]int{}
	for range 40000 {
		a, b, c := somePlan(r, r.IntN(4), 3), somePlan(r, r.IntN(4), 3), somePlan(r, r.IntN(4), 3)
		if !Wider(a, a) {
			t.Fatal(a)
		}
		if Wider(a, b) && Wider(b, c) {
			if counts["on"]++; !Wider(a, c) {
				t.Fatal(a, b, c)
			}
		}
		if Wider(a, b) && Wider(b, a) {
			if counts["same"]++; fmt.Sprint(a) != fmt.Sprint(b) {
				t.Fatal(a, b)
			}
		}
		if Wider(a, b) != Wider(b, a) {
			counts["apart"]++
		}
	}
	for _, kind := range []string{"on", "same", "apart"} {
		if counts[kind] < 500 {
			t.Error(kind, counts)
		}
	}
}
