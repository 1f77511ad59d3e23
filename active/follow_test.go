package active

import (
	"fmt"
	"math/rand/v2"
	"slices"
	"testing"

	"gnomon/api"
	"gnomon/check"
	"gnomon/moves"
	"gnomon/region"
	"gnomon/replay"
	"gnomon/search"
)

// eachNet hands networks at random, and goals of them, to a function.
func eachNet(seed uint64, clocks, many int, try func(r *rand.Rand, n api.Net, g ...api.Goal)) {
	r := source(seed)
	for k := range many {
		n := someNet(r, k%(clocks+1), 3)
		var goals []api.Goal
		for range r.IntN(3) {
			goals = append(goals, someGoal(r, n, 5))
		}
		for _, g := range append(goals, nil) {
			if err := check.Goal(n, g); err != api.OK {
				panic(err)
			}
		}
		try(r, n, goals...)
	}
}

// TestP24_1Model: Clocks, Plan and Idle, held against ways that are gone forward.
func TestP24_1Model(t *testing.T) {
	counts := map[bool]int{}
	eachNet(2, 4, 2000, func(r *rand.Rand, n api.Net, g ...api.Goal) {
		most := check.Max(n, g...)
		var table [][][]int
		for auto, a := range n.Autos {
			var rows [][]int
			for loc := range a.Locs {
				want := wantClocks(n, auto, loc, g...)
				are(t, want...)(Clocks(n, auto, loc, g...))
				row := slices.Repeat([]int{-1}, len(most))
				for _, clock := range want {
					row[clock-1] = most[clock-1]
				}
				rows = append(rows, row)
				counts[true] += len(want)
				counts[false] += len(most) - len(want)
			}
			table = append(table, rows)
		}
		isPlan(t, table)(Plan(n, g...))
		s := someState(r, n)
		var idle []int
		for clock := 1; clock <= len(most); clock++ {
			is := false
			for auto, loc := range s.Locs {
				is = is || isActive(n.Autos[auto], loc, clock, g...)
			}
			if !is {
				idle = append(idle, clock)
			}
		}
		are(t, idle...)(Idle(n, s, g...))
		if t.Failed() {
			t.Fatal(n, g, s)
		}
	})
	if counts[true] < 2000 || counts[false] < 1000 {
		t.Error(counts)
	}
}

// someState is one of a network, whether it can be come to or not.
func someState(r *rand.Rand, n api.Net) api.State {
	var s api.State
	for _, a := range n.Autos {
		s.Locs = append(s.Locs, r.IntN(len(a.Locs)))
	}
	for _, v := range n.Vars {
		s.Vars = append(s.Vars, v.Lo+r.IntN(v.Hi-v.Lo+1))
	}
	return s
}

// TestP24_2Search (E6): a search by the plan says what one by Uniform says, and what regions say.
func TestP24_2Search(t *testing.T) {
	counts, fewer := map[api.Verdict]int{}, 0
	eachNet(3, 3, 1000, func(r *rand.Rand, n api.Net, l ...api.Goal) {
		g := slices.Concat(l...)
		p, err := Plan(n, g)
		if err != api.OK {
			t.Fatal(n, g, err)
		}
		want, _, no := region.Reach(n, g)
		if no == api.ErrFull {
			want = api.Unknown
		}
		last := r.IntN(2) == 0
		for _, plan := range []api.Plan{uniform(t, n, g), p} {
			for _, side := range []bool{last, !last} {
				s, err := search.New(n, g, plan, side)
				if err != api.OK {
					t.Fatal(n, g, plan, err)
				}
				v, err := s.Go(api.MaxZones + 1)
				if err != api.OK {
					continue
				}
				if want == api.Unknown {
					want = v
				}
				if v != want {
					t.Fatal(n, g, plan, v, want)
				}
				if counts[v]++; fmt.Sprint(plan) != fmt.Sprint(uniform(t, n, g)) {
					fewer++
				}
			}
		}
	})
	if counts[api.Reachable] < 1000 || counts[api.Unreachable] < 1000 || fewer < 400 {
		t.Error(counts, fewer)
	}
}

// TestP24_2Fewer: with clocks that are idle fewer zones are stored.
func TestP24_2Fewer(t *testing.T) {
	// Each time round x has another value, that nobody asks for before it is set.
	n := said(t, "clock x, y; auto A { loc a inv y <= 1; loc b; edge a -> a when y == 1 do y := 0; edge a -> b do x := 0; edge b -> b when x == 50; }")
	p, err := Plan(n)
	isPlan(t, [][][]int{{{-1, 1}, {50, -1}}})(p, err)
	stored := map[bool]int{}
	for _, plan := range []api.Plan{uniform(t, n), p} {
		s, _ := search.New(n, nil, plan, false)
		if v, err := s.Go(api.MaxZones + 1); v != api.Unreachable || err != api.OK {
			t.Error(v, err)
		}
		stored[plan.Lo[0][0][0] == -1] = len(s.Nodes())
	}
	if stored[true] >= stored[false] || stored[true] > 3 {
		t.Error(stored)
	}
}

func someTime(r *rand.Rand, top int) api.Rat {
	den := int64(1 + r.IntN(3))
	x := api.Rat{Num: r.Int64N(int64(top)*den + 1), Den: den}
	if x.Num%x.Den == 0 {
		return api.Rat{Num: x.Num / x.Den, Den: 1}
	}
	return x
}

// other is a configuration that differs in idle clocks alone.
func other(r *rand.Rand, c replay.Config, idle []int) replay.Config {
	d := replay.Config{State: c.State, Clocks: slices.Clone(c.Clocks)}
	for _, clock := range idle {
		d.Clocks[clock-1] = someTime(r, 7)
	}
	return d
}

// differ are the clocks in which two configurations differ.
func differ(c, d replay.Config) []int {
	var l []int
	for i := range c.Clocks {
		if c.Clocks[i] != d.Clocks[i] {
			l = append(l, i+1)
		}
	}
	return l
}

// TestP24_3Differ: two configurations that differ in idle clocks alone do the same moves at the same delays, reach the same goals, and differ in idle clocks alone behind each.
func TestP24_3Differ(t *testing.T) {
	done, apart, met := 0, 0, map[bool]int{}
	eachNet(4, 4, 3000, func(r *rand.Rand, n api.Net, g ...api.Goal) {
		c := replay.Config{State: someState(r, n)}
		for range n.Clocks {
			c.Clocks = append(c.Clocks, someTime(r, 4))
		}
		idle, err := Idle(n, c.State, g...)
		if err != api.OK {
			t.Fatal(err)
		}
		d := other(r, c, idle)
		for range 8 {
			idle, _ = Idle(n, c.State, g...)
			for _, clock := range differ(c, d) {
				if apart++; !slices.Contains(idle, clock) {
					t.Fatal(n, g, c, d, idle)
				}
			}
			for _, goal := range g {
				a, _ := replay.Meets(n, c, goal)
				b, _ := replay.Meets(n, d, goal)
				if met[a >= 0]++; a != b {
					t.Fatal(n, goal, c, d, a, b)
				}
			}
			delay := someTime(r, 2)
			c2, err := replay.Wait(n, c, delay)
			d2, no := replay.Wait(n, d, delay)
			if err != no {
				t.Fatal(n, c, d, delay, err, no)
			}
			if err == api.OK {
				c, d = c2, d2
			}
			open := moves.Enabled(n, c.State)
			if len(open) == 0 {
				return
			}
			m := open[r.IntN(len(open))]
			c2, err = replay.Do(n, c, m)
			d2, no = replay.Do(n, d, m)
			if err != no {
				t.Fatal(n, c, d, m, err, no)
			}
			if err == api.OK {
				c, d = c2, d2
				done++
			}
		}
	})
	if done < 2000 || apart < 2000 || met[true] < 500 || met[false] < 500 {
		t.Error(done, apart, met)
	}
}

// TestP24_4More: with a goal more no clock is active at fewer places.
func TestP24_4More(t *testing.T) {
	more, same := 0, 0
	eachNet(5, 4, 1500, func(r *rand.Rand, n api.Net, g ...api.Goal) {
		extra := slices.Insert(slices.Clone(g), r.IntN(len(g)+1), someGoal(r, n, 5))
		for auto, a := range n.Autos {
			for loc := range a.Locs {
				before, _ := Clocks(n, auto, loc, g...)
				after, err := Clocks(n, auto, loc, extra...)
				if err != api.OK || slices.ContainsFunc(before, func(c int) bool { return !slices.Contains(after, c) }) {
					t.Fatal(n, extra, before, after, err)
				}
				if len(after) > len(before) {
					more++
				} else {
					same++
				}
			}
		}
	})
	if more < 200 || same < 200 {
		t.Error(more, same)
	}
}

// TestP24_5Ways: what is active at a location, but not used there, is active behind an edge from there that does not set it; what is not active is so behind none; and from edge to edge a use is come to.
func TestP24_5Ways(t *testing.T) {
	behind, idle := 0, 0
	eachNet(6, 4, 2000, func(r *rand.Rand, n api.Net, g ...api.Goal) {
		for auto, a := range n.Autos {
			rows := make([][]int, len(a.Locs))
			for loc := range a.Locs {
				rows[loc], _ = Clocks(n, auto, loc, g...)
			}
			for loc := range a.Locs {
				for clock := 1; clock <= len(n.Clocks); clock++ {
					is, used := slices.Contains(rows[loc], clock), isUsed(a, loc, clock, g...)
					leads := slices.ContainsFunc(a.Edges, func(e api.Edge) bool {
						sets := slices.ContainsFunc(e.Sets, func(s api.Set) bool { return s.Clock == clock })
						return e.From == loc && !sets && slices.Contains(rows[e.To], clock)
					})
					if is != (used || leads) || is && !isActive(a, loc, clock, g...) {
						t.Fatal(n, g, auto, loc, clock, is, used, leads)
					}
					if is && !used {
						behind++
					}
					if !is {
						idle++
					}
				}
			}
		}
	})
	if behind < 500 || idle < 500 {
		t.Error(behind, idle)
	}
}

// TestP24_5Nothing: the least such: round a circle without a use nothing is active.
func TestP24_5Nothing(t *testing.T) {
	n := said(t, "clock x; auto A { loc a; loc b; loc c; edge a -> b; edge b -> c; edge c -> a; edge a -> a; } auto B { loc a inv x < 3; }")
	for loc := range 3 {
		are(t)(Clocks(n, 0, loc))
	}
	are(t, 1)(Clocks(n, 1, 0))
	are(t)(Idle(n, api.State{Locs: []int{1, 0}}))
}
