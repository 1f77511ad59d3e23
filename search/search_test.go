package search

import (
	"fmt"
	"math"
	"math/rand/v2"
	"slices"
	"strings"
	"testing"

	"gnomon/api"
	"gnomon/check"
	"gnomon/moves"
	"gnomon/succ"
)

// TestP17Examples: those of the chapter, and those of DOC.md that ask for a verdict.
func TestP17Examples(t *testing.T) {
	s := sought(t, small, "A.b", false)
	same(t, s, "0 -1 -1 0 [0]\n{[0] []} 1: x1-x0<=5; -1 {0 0 0 0} -1")
	v, err := s.Go(1)
	isTold(t, v, err)(api.Unknown, api.ErrFuel)
	same(t, s, "0 -1 -1 1 [1]\n{[0] []} 1: x1-x0<=5; -1 {0 0 0 0} 0\n{[1] []} 1:; 0 {0 0 0 0} -1")
	v, err = s.Go(1)
	isTold(t, v, err)(api.Reachable, api.OK)
	same(t, s, "1 1 0 2 []\n{[0] []} 1: x1-x0<=5; -1 {0 0 0 0} 0\n{[1] []} 1:; 0 {0 0 0 0} 1")
	s = sought(t, small, "true", false)
	v, err = s.Go(1)
	isTold(t, v, err)(api.Reachable, api.OK)
	same(t, s, "1 0 0 1 []\n{[0] []} 1: x1-x0<=5; -1 {0 0 0 0} 0")
	none, err := New(said(t, small), api.Goal{{Locs: []api.At{{Loc: 2}}}}, api.Plan{}, false)
	if none != nil || err != api.ErrLoc {
		t.Error(none, err)
	}
	for _, c := range []struct {
		net, goal string
		want      api.Verdict
	}{
		{small, "A.b && x > 7", api.Reachable},
		{small, "A.a && x > 5", api.Unreachable},
		{small, "A.a && x == 5", api.Reachable},
		{"clock x; auto A { loc a inv x <= 5; loc b; edge a -> b when x > 5 do x := 0; }", "A.b", api.Unreachable},
		{"chan c; auto A { loc a; loc b; edge a -> b sync c!; } auto B { loc a; loc b; edge a -> b sync c?; }", "A.b && B.b", api.Reachable},
		{"chan c; auto A { loc a; loc b; edge a -> b sync c!; } auto B { loc a; loc b; edge a -> b sync c?; }", "A.a && B.b", api.Unreachable},
		{"chan c; auto A { loc a; loc b; edge a -> b sync c!; } auto B { loc a; loc b; edge a -> b sync c?; } auto C { loc a; loc b; edge a -> b sync c?; }", "A.b && B.b && C.b", api.Unreachable},
		{"clock x; auto A { loc a committed; loc b; edge a -> b; } auto B { loc a; loc b; edge a -> b; }", "A.a && B.b || A.a && x > 0", api.Unreachable},
		{"clock x; auto A { loc a committed; loc b; edge a -> b; } auto B { loc a; loc b; edge a -> b; }", "A.b && B.b && x == 0", api.Reachable},
		{"int n in 0 .. 3 := 0; auto A { loc a; edge a -> a do n := n + 1; }", "n == 3", api.Reachable},
		{"int n in 0 .. 3 := 0; auto A { loc a; edge a -> a do n := n + 1; }", "n > 3", api.Unreachable},
	} {
		for _, last := range []bool{false, true} {
			if v, err := sought(t, c.net, c.goal, last).Go(99); v != c.want || err != api.OK {
				t.Error(c, v, err)
			}
		}
	}
}

// TestP17_1New: the first node is stored, and nothing is popped; of networks without clocks, without variables, with locations in which no time passes.
func TestP17_1New(t *testing.T) {
	for _, c := range []struct{ net, goal, want string }{
		{"auto A { loc a; }", "", "{[0] []} 0:"},
		{"auto A { loc a committed; }", "true", "{[0] []} 0:"},
		{"int n in -3 .. 7 := 2; auto A { loc a; } auto B { loc a; }", "n == 2", "{[0 0] [2]} 0:"},
		{"clock x; auto A { loc a inv x < 4; }", "", "{[0] []} 1: x1-x0<4"},
		{"clock x; auto A { loc a urgent inv x < 4; }", "", "{[0] []} 1: x1-x0<=0"},
		{"clock x, y; auto A { loc a; } auto B { loc a committed; }", "x > 1 && y > 0", "{[0 0] []} 2: x1-x0<=0 x1-x2<=0 x2-x0<=0 x2-x1<=0"},
		{"clock x, y; auto A { loc a; }", "", "{[0] []} 2:"},
		{rich, richGoal, "{[0 0] [0 2]} 2: x1-x0<=5 x1-x2<=0 x2-x0<=5 x2-x1<=0"},
	} {
		for _, last := range []bool{false, true} {
			same(t, sought(t, c.net, c.goal, last), "0 -1 -1 0 [0]\n"+c.want+"; -1 {0 0 0 0} -1")
		}
	}
}

// TestP17_1Empty: if the first zone is empty, nothing is stored, and that is all.
func TestP17_1Empty(t *testing.T) {
	for _, net := range []string{
		"clock x; auto A { loc a inv x >= 1; edge a -> a; }",
		"clock x; auto A { loc a urgent inv x > 0; }",
		"clock x; auto A { loc a committed inv x < 0; }",
		"clock x, y; auto A { loc a; } auto B { loc a inv y == 3; edge a -> a do y := 3; }",
	} {
		for _, fuel := range []int{-1, 0, 1, 99} {
			s := sought(t, net, "true", fuel > 0)
			same(t, s, "2 -1 -1 0 []")
			v, err := s.Go(fuel)
			isTold(t, v, err)(api.Unreachable, api.OK)
			same(t, s, "2 -1 -1 0 []")
		}
	}
}

// TestP17_1Wrong: check.Net's error, ahead of check.Goal's, ahead of the plan's; and no search beside it.
func TestP17_1Wrong(t *testing.T) {
	n := said(t, rich)
	fails := func(n api.Net, g api.Goal, p api.Plan, want api.Errno) {
		t.Helper()
		for _, last := range []bool{false, true} {
			if s, err := New(n, g, p, last); s != nil || err != want {
				t.Error(g, p, s, err, want)
			}
		}
	}
	plans := append(wrongPlans(t), api.Plan{}, uniform(t, n, 9, 9))
	goals := append(wrongGoals(t), wrong{g: aim(t, n, richGoal)}, wrong{})
	for _, w := range wrongNets(t) {
		for _, g := range goals {
			fails(w.n, g.g, api.Plan{}, w.err)
			fails(w.n, g.g, plans[0], w.err)
		}
	}
	for _, g := range wrongGoals(t) {
		for _, p := range plans {
			fails(n, g.g, p, g.err)
		}
	}
	for _, p := range wrongPlans(t) {
		fails(n, nil, p, api.ErrForm)
		fails(n, aim(t, n, richGoal), p, api.ErrForm)
	}
	// Of a network whose first zone is empty, too.
	fails(said(t, "clock x; auto A { loc a inv x >= 1; }"), nil, plans[0], api.ErrForm)
}

// TestP17_1Plan: zones are made wider by the plan that is handed in, location by location.
func TestP17_1Plan(t *testing.T) {
	n := said(t, "clock x; auto A { loc a inv x <= 5; loc b; loc c; edge a -> b when x >= 3; edge b -> c when x <= 4; }")
	p := api.Plan{Lo: [][][]int{{{4}, {-1}, {9}}}, Up: [][][]int{{{9}, {2}, {0}}}}
	s := begun(t, n, nil, p, false)
	s.Go(9)
	// In a no number above 4 counts from below; in b none below 2 counts from above; in c none at all does.
	same(t, s, `2 -1 -1 3 []
{[0] []} 1:; -1 {0 0 0 0} 0
{[1] []} 1: x0-x1<-2; 0 {0 0 0 0} 1
{[2] []} 1: x0-x1<0; 1 {0 1 0 0} 2`)
	if v, err := begun(t, n, aim(t, n, "A.a && x > 5"), p, false).Go(9); v != api.Reachable || err != api.OK {
		t.Error(v, err)
	}
	// Without rows: by all numbers.
	s = begun(t, n, nil, api.Plan{}, false)
	s.Go(9)
	same(t, s, `2 -1 -1 3 []
{[0] []} 1: x1-x0<=5; -1 {0 0 0 0} 0
{[1] []} 1: x0-x1<=-3; 0 {0 0 0 0} 1
{[2] []} 1: x0-x1<=-3; 1 {0 1 0 0} 2`)
}

// TestP17_1NoRows: without rows it is the plan of the network's and the goal's numbers, all parts of it.
func TestP17_1NoRows(t *testing.T) {
	// The network holds x against nothing: by its numbers alone nothing would be said of it.
	net := "clock x, y; auto A { loc a inv y <= 2; edge a -> a when y >= 1 do y := 0; }"
	for goal, want := range map[string]api.Verdict{
		"x == 1 && y == 2":          api.Unreachable,
		"x == 2 && y == 2":          api.Reachable,
		"x < 5 && x > 4 && y == 0":  api.Reachable,
		"y > 2 || x <= 1 && y >= 2": api.Unreachable,
		"x == 7 && y == 2":          api.Reachable,
	} {
		if v, err := sought(t, net, goal, false).Go(999); v != want || err != api.OK {
			t.Error(goal, v, err)
		}
	}
	r := source(11)
	for range 200 {
		n := someNet(r, r.IntN(4), 3)
		g := someGoal(r, n, 6)
		s := begun(t, n, g, uniform(t, n, check.Max(n, g)...), false)
		s.Go(30)
		for _, p := range []api.Plan{{}, {Lo: [][][]int{}}, {Up: [][][]int{}}, {Lo: make([][][]int, 0, 3), Up: [][][]int{}}} {
			o := begun(t, n, g, p, false)
			o.Go(30)
			same(t, o, textOf(s))
		}
	}
}

// TestP17_2Model: what is told behind each pop is what a search by the words of the chapter tells.
func TestP17_2Model(t *testing.T) {
	longest := 0
	eachSearch(t, 8, 60, func(r *rand.Rand, n api.Net, g api.Goal, p api.Plan, last bool) {
		whole := p
		if len(p.Lo) == 0 {
			whole = uniform(t, n, check.Max(n, g)...)
		}
		s, m := begun(t, n, g, p, last), modelOf(n, g, whole, last)
		same(t, s, m.text())
		for k := range 40 {
			fuel := min(k, 1+r.IntN(3)) // none at first
			v, err := s.Go(fuel)
			isTold(t, v, err)(m.run(fuel))
			same(t, s, m.text())
		}
		longest = max(longest, s.Pops())
	})
	for _, c := range [][2]string{{rich, richGoal}, {fischer(2, ">= 2"), "P0.crit && P1.crit"}, {fischer(2, "> 2"), "P0.crit && P1.crit"}} {
		for _, last := range []bool{false, true} {
			n := said(t, c[0])
			g := aim(t, n, c[1])
			s, m := begun(t, n, g, api.Plan{}, last), modelOf(n, g, uniform(t, n, check.Max(n, g)...), last)
			for range 60 {
				v, err := s.Go(1)
				isTold(t, v, err)(m.run(1))
				same(t, s, m.text())
			}
		}
	}
	if longest < 40 {
		t.Error(longest)
	}
}

// TestP17_2Order: what was stored first is popped first, or what was stored last; moves in their order, each with its Parent and Move.
func TestP17_2Order(t *testing.T) {
	net := "int n in 0 .. 9 := 0; chan c; auto A { loc a; edge a -> a when n < 2 do n := 2 * n + 1; edge a -> a when n < 2 sync c! do n := 2 * n; } auto B { loc a; edge a -> a sync c? do n := n + 2; }"
	for last, want := range map[bool]string{false: `2 -1 -1 5 []
{[0 0] [0]} 0:; -1 {0 0 0 0} 0
{[0 0] [1]} 0:; 0 {0 0 0 0} 1
{[0 0] [2]} 0:; 0 {0 1 2 0} 2
{[0 0] [3]} 0:; 1 {0 0 0 0} 3
{[0 0] [4]} 0:; 1 {0 1 2 0} 4`, true: `2 -1 -1 5 []
{[0 0] [0]} 0:; -1 {0 0 0 0} 0
{[0 0] [1]} 0:; 0 {0 0 0 0} 2
{[0 0] [2]} 0:; 0 {0 1 2 0} 1
{[0 0] [3]} 0:; 1 {0 0 0 0} 4
{[0 0] [4]} 0:; 1 {0 1 2 0} 3`} {
		s := sought(t, net, "", last)
		s.Go(2)
		if l := s.Waiting(); !slices.Equal(l, map[bool][]int{false: {2, 3, 4}, true: {1}}[last]) {
			t.Error(last, l)
		}
		s.Go(1)
		if l := s.Waiting(); !slices.Equal(l, map[bool][]int{false: {3, 4}, true: {4, 3}}[last]) {
			t.Error(last, l)
		}
		s.Go(99)
		same(t, s, want)
	}
	// Which node is found hangs on the order.
	for last, want := range map[bool]string{false: "1 1 0 2 [2]", true: "1 2 1 2 [1]"} {
		s := sought(t, net, "n == 1 || n == 2", last)
		s.Go(99)
		if got := textOf(s); !strings.HasPrefix(got, want) {
			t.Error(last, got)
		}
	}
}

// growing has, of each value of n, first a node with x above 0, then one with all of x, by which the first one is Gone.
func growing(top int) string {
	return fmt.Sprintf("clock x; int n in 0 .. %d := 0; auto A { loc a; edge a -> a when x >= 1 do n := n + 1; edge a -> a do n := n + 1; }", top)
}

// TestP17_2Gone: what is covered is not stored; what is dropped is Gone from then on, keeps its Parent, Move and Popped, and does not wait any more.
func TestP17_2Gone(t *testing.T) {
	s := sought(t, growing(2), "", false)
	s.Go(1)
	same(t, s, `0 -1 -1 1 [2]
{[0] [0]} 1:; -1 {0 0 0 0} 0
{[0] [1]} 1: x0-x1<=-1; 0 {0 0 0 0} -1 gone
{[0] [1]} 1:; 0 {0 1 0 0} -1`)
	v, err := s.Go(9)
	isTold(t, v, err)(api.Unreachable, api.OK)
	same(t, s, `2 -1 -1 3 []
{[0] [0]} 1:; -1 {0 0 0 0} 0
{[0] [1]} 1: x0-x1<=-1; 0 {0 0 0 0} -1 gone
{[0] [1]} 1:; 0 {0 1 0 0} 1
{[0] [2]} 1: x0-x1<=-1; 2 {0 0 0 0} -1 gone
{[0] [2]} 1:; 2 {0 1 0 0} 2`)
	// The other way round the second one is covered.
	s = sought(t, "clock x; int n in 0 .. 1 := 0; auto A { loc a; edge a -> a do n := n + 1; edge a -> a when x >= 1 do n := n + 1; }", "", true)
	s.Go(9)
	same(t, s, `2 -1 -1 2 []
{[0] [0]} 1:; -1 {0 0 0 0} 0
{[0] [1]} 1:; 0 {0 0 0 0} 1`)
	// One that was popped is Gone by what is behind it: the rest of its moves is done all the same, and it stays a Parent.
	s = sought(t, "clock x; auto A { loc a; loc b; loc c; edge a -> b when x >= 2; edge b -> b when x >= 1 do x := 0; edge b -> c; }", "", false)
	s.Go(9)
	same(t, s, `2 -1 -1 4 []
{[0] []} 1:; -1 {0 0 0 0} 0
{[1] []} 1: x0-x1<=-2; 0 {0 0 0 0} 1 gone
{[1] []} 1:; 1 {0 1 0 0} 2
{[2] []} 1: x0-x1<=-2; 1 {0 2 0 0} -1 gone
{[2] []} 1:; 2 {0 2 0 0} 3`)
}

// TestP17_2Fuel: fuels of 0, below 0, just enough, one too few; the verdict beside each.
func TestP17_2Fuel(t *testing.T) {
	counting := "int n in 0 .. 9 := 0; auto A { loc a; edge a -> a do n := n + 1; }"
	for _, fuel := range []int{0, -1, -99, math.MinInt} {
		s := sought(t, counting, "true", false)
		told := textOf(s)
		v, err := s.Go(fuel)
		isTold(t, v, err)(api.Unknown, api.ErrFuel)
		same(t, s, told)
	}
	for goal, c := range map[string]struct {
		need int
		want api.Verdict
	}{"true": {1, api.Reachable}, "n == 4": {5, api.Reachable}, "n == 9": {10, api.Reachable}, "n < 0": {10, api.Unreachable}, "": {10, api.Unreachable}} {
		for fuel := range 13 {
			s := sought(t, counting, goal, false)
			v, err := s.Go(fuel)
			if fuel < c.need {
				isTold(t, v, err)(api.Unknown, api.ErrFuel)
			} else {
				isTold(t, v, err)(c.want, api.OK)
			}
			if s.Pops() != min(fuel, c.need) || s.Verdict() != v {
				t.Error(goal, fuel, s.Pops(), s.Verdict())
			}
		}
		s := sought(t, counting, goal, true)
		v, err := s.Go(math.MaxInt)
		isTold(t, v, err)(c.want, api.OK)
	}
}

// TestP17_2Parts: the first part that meets is told; of no part nothing is found.
func TestP17_2Parts(t *testing.T) {
	for goal, want := range map[string]string{
		"A.b || A.a":                       "0 1",
		"A.a || A.b":                       "0 0",
		"A.a && x > 5 || A.b || x == 5":    "0 2",
		"A.a && x > 5 || A.b && x > 9":     "1 1",
		"x > 5 || true":                    "0 1",
		"A.b || A.b || A.b":                "1 0",
		"A.a && A.b || x > 5 || A.b":       "1 1",
		"A.a && x >= 3 && x < 3 || x == 3": "0 1",
	} {
		s := sought(t, small, goal, false)
		v, err := s.Go(9)
		isTold(t, v, err)(api.Reachable, api.OK)
		if i, part := s.Found(); fmt.Sprint(i, " ", part) != want {
			t.Error(goal, i, part)
		}
	}
	for _, g := range []api.Goal{nil, {}} {
		s := begun(t, said(t, small), g, api.Plan{}, false)
		v, err := s.Go(9)
		isTold(t, v, err)(api.Unreachable, api.OK)
		if i, part := s.Found(); i != -1 || part != -1 || s.Pops() != 2 {
			t.Error(i, part, s.Pops())
		}
	}
}

// TestP17_2Found: behind a goal that is found nothing changes, though something waits; nothing behind the node that is found is stored.
func TestP17_2Found(t *testing.T) {
	net := "int n in 0 .. 9 := 0; auto A { loc a; edge a -> a do n := n + 1; edge a -> a do n := n + 2; }"
	s := sought(t, net, "n == 1", false)
	v, err := s.Go(2)
	isTold(t, v, err)(api.Reachable, api.OK)
	const told = "1 1 0 2 [2]\n{[0] [0]} 0:; -1 {0 0 0 0} 0\n{[0] [1]} 0:; 0 {0 0 0 0} 1\n{[0] [2]} 0:; 0 {0 1 0 0} -1"
	same(t, s, told)
	for _, fuel := range []int{0, -1, 1, 99, api.MaxZones + 1} {
		v, err := s.Go(fuel)
		isTold(t, v, err)(api.Reachable, api.OK)
		same(t, s, told)
	}
	s = sought(t, net, "n < 5", true)
	v, err = s.Go(99)
	isTold(t, v, err)(api.Reachable, api.OK)
	same(t, s, "1 0 0 1 []\n{[0] [0]} 0:; -1 {0 0 0 0} 0")
}

// TestP17_2Zones: a node is to be stored, and MaxZones were: the search is over, with the verdict Unknown, and stays so.
func TestP17_2Zones(t *testing.T) {
	for _, c := range []struct {
		net, goal     string
		last          bool
		pops, waiting int
	}{
		// One behind the other: nothing waits.
		{"int n in 0 .. 4096 := 0; auto A { loc a; edge a -> a do n := n + 1; }", "", false, 4096, 0},
		{"int n in 0 .. 4096 := 0; auto A { loc a; edge a -> a do n := n + 1; }", "n == 4096", true, 4096, 0},
		// A move behind the one that ended it would be covered: it is over all the same.
		{"int n in 0 .. 4096 := 0; auto A { loc a; edge a -> a do n := n + 1; edge a -> a do n := 0; }", "", false, 4096, 0},
		// Two behind each: a half waits. The second one of a pop is not stored: the first one is.
		{"int n in 0 .. 9999 := 0; auto A { loc a; edge a -> a do n := 2 * n + 1; edge a -> a do n := 2 * n + 2; }", "n > 9000", false, 2048, 2048},
		// Dropped ones count.
		{growing(2048), "", false, 2048, 1},
	} {
		s := sought(t, c.net, c.goal, c.last)
		v, err := s.Go(c.pops - 1)
		isTold(t, v, err)(api.Unknown, api.ErrFuel)
		ahead := s.Fork()
		// The last pop ends it: though no fuel is left, that is what is told.
		v, err = s.Go(1)
		isTold(t, v, err)(api.Unknown, api.ErrZones)
		isOver := func(s *Search) {
			t.Helper()
			if i, part := s.Found(); i != -1 || part != -1 || s.Verdict() != api.Unknown || s.Pops() != c.pops || len(s.Nodes()) != api.MaxZones || len(s.Waiting()) != c.waiting {
				t.Fatal(c.net, i, part, s.Verdict(), s.Pops(), len(s.Nodes()), len(s.Waiting()))
			}
		}
		isOver(s)
		told := textOf(s)
		for _, fuel := range []int{0, -1, 1, 5000} {
			v, err = s.Go(fuel)
			isTold(t, v, err)(api.Unknown, api.ErrZones)
			same(t, s, told)
		}
		v, err = s.Fork().Go(1)
		isTold(t, v, err)(api.Unknown, api.ErrZones)
		v, err = ahead.Go(api.MaxZones + 1)
		isTold(t, v, err)(api.Unknown, api.ErrZones)
		same(t, ahead, told)
		m := modelOf(said(t, c.net), aim(t, said(t, c.net), c.goal), uniform(t, said(t, c.net), check.Max(said(t, c.net))...), c.last)
		m.run(api.MaxZones)
		same(t, s, m.text())
	}
}

// TestP17_2Full: with as many nodes as may be a search goes on, as long as none more is to be stored.
func TestP17_2Full(t *testing.T) {
	for _, c := range []struct {
		net, goal string
		want      api.Verdict
	}{
		{"int n in 0 .. 4095 := 0; auto A { loc a; edge a -> a do n := n + 1; edge a -> a do n := 0; }", "", api.Unreachable},
		{"int n in 0 .. 4096 := 0; auto A { loc a; edge a -> a do n := n + 1; }", "n == 4095", api.Reachable},
		{growing(2047), "", api.Unreachable},
		// What is behind the last node is empty.
		{"clock x; int n in 0 .. 5000 := 0; auto A { loc a inv x <= 3; edge a -> a when n < 4095 do n := n + 1; edge a -> a when n > 4094 && x > 3 do n := n + 1; }", "n == 4096", api.Unreachable},
	} {
		s := sought(t, c.net, c.goal, false)
		v, err := s.Go(api.MaxZones)
		isTold(t, v, err)(c.want, api.OK)
		if k := len(s.Nodes()); k < api.MaxZones-1 || k > api.MaxZones {
			t.Error(c.net, k)
		}
	}
}

// TestP17_2Fork: what becomes of one of the two changes nothing of the other one.
func TestP17_2Fork(t *testing.T) {
	eachSearch(t, 9, 60, func(r *rand.Rand, n api.Net, g api.Goal, p api.Plan, last bool) {
		s, twin := begun(t, n, g, p, last), begun(t, n, g, p, last)
		k := r.IntN(6)
		s.Go(k)
		twin.Go(k)
		f := s.Fork()
		same(t, f, textOf(s))
		s.Go(5)
		same(t, f, textOf(twin))
		f.Go(2)
		twin.Go(2)
		same(t, f, textOf(twin))
		twin.Go(3)
		same(t, s, textOf(twin))
		f.Go(3)
		same(t, f, textOf(s))
	})
	// Both store ahead of a place that they have in common.
	net := "int n in 0 .. 99 := 0; auto A { loc a; edge a -> a do n := n + 1; edge a -> a do n := n + 2; edge a -> a do n := n + 3; }"
	for _, last := range []bool{false, true} {
		s := sought(t, net, "", last)
		s.Go(5)
		a, b := s.Fork(), s.Fork()
		told := textOf(s)
		a.Go(1)
		b.Go(7)
		same(t, s, told)
		b.Fork().Go(99)
		a.Go(6)
		same(t, a, textOf(b))
		s.Go(7)
		same(t, a, textOf(s))
	}
}

// TestP17_2Nil: of a nil search.
func TestP17_2Nil(t *testing.T) {
	var s *Search
	for _, fuel := range []int{-1, 0, 9} {
		v, err := s.Go(fuel)
		isTold(t, v, err)(api.Unknown, api.ErrNil)
	}
	if i, part := s.Found(); i != -1 || part != -1 {
		t.Error(i, part)
	}
	if s.Verdict() != api.Unknown || len(s.Nodes()) != 0 || s.Pops() != 0 || len(s.Waiting()) != 0 || s.Fork() != nil {
		t.Error("something of nil")
	}
}

// roomy is the rich network, a goal and a plan, whose lists have spare room.
func roomy(t testing.TB) (api.Net, api.Goal, api.Plan) {
	n := said(t, rich)
	for i, a := range n.Autos {
		for j := range a.Locs {
			a.Locs[j].Inv = slices.Grow(a.Locs[j].Inv, 2)
		}
		for j := range a.Edges {
			a.Edges[j].Guards = slices.Grow(a.Edges[j].Guards, 2)
			a.Edges[j].Sets = slices.Grow(a.Edges[j].Sets, 2)
		}
		n.Autos[i].Edges = slices.Grow(a.Edges, 3)
	}
	g := aim(t, n, richGoal)
	for i := range g {
		g[i].Locs, g[i].Guards = slices.Grow(g[i].Locs, 2), slices.Grow(g[i].Guards, 2)
	}
	p := uniform(t, n, check.Max(n, g)...)
	for i := range p.Lo {
		for j := range p.Lo[i] {
			p.Lo[i][j], p.Up[i][j] = slices.Grow(p.Lo[i][j], 2), slices.Grow(p.Up[i][j], 2)
		}
	}
	return n, slices.Grow(g, 2), p
}

// spare is all that stands in the lists of a network, a goal and a plan, and in their spare room.
func spare(n api.Net, g api.Goal, p api.Plan) string {
	text := fmt.Sprint(n, g[:cap(g)], p)
	for i, a := range n.Autos {
		text += fmt.Sprint(a.Edges[:cap(a.Edges)])
		for j, l := range a.Locs {
			text += fmt.Sprint(l.Inv[:cap(l.Inv)], p.Lo[i][j][:cap(p.Lo[i][j])], p.Up[i][j][:cap(p.Up[i][j])])
		}
		for _, e := range a.Edges {
			text += fmt.Sprint(e.Guards[:cap(e.Guards)], e.Sets[:cap(e.Sets)])
		}
	}
	for _, x := range g {
		text += fmt.Sprint(x.Locs[:cap(x.Locs)], x.Guards[:cap(x.Guards)])
	}
	return text
}

// TestP3In: what is handed in stays as it is; and what becomes of it does not change the search.
func TestP3In(t *testing.T) {
	for _, rows := range []bool{false, true} {
		n, g, p := roomy(t)
		before := spare(n, g, p)
		plan := p
		if !rows {
			plan = api.Plan{}
		}
		s, twin := begun(t, n, g, plan, false), begun(t, n, g, plan, false)
		s.Go(3)
		s.Nodes()
		if spare(n, g, p) != before {
			t.Error("changed")
		}
		twin.Go(3)
		for i := range n.Autos {
			clear(n.Autos[i].Edges[0].Guards)
			clear(n.Autos[i].Edges[1].Sets)
			clear(n.Autos[i].Edges)
			clear(n.Autos[i].Locs[0].Inv)
			clear(p.Lo[i][0])
			clear(p.Up[i])
		}
		clear(n.Autos)
		clear(n.Vars)
		clear(n.Clocks)
		clear(g[0].Guards)
		clear(g[1].Test)
		clear(g)
		clear(p.Lo)
		s.Go(99)
		n, g, p = roomy(t)
		if !rows {
			p = api.Plan{}
		}
		o := begun(t, n, g, p, false)
		o.Go(102)
		same(t, s, textOf(o))
	}
}

// TestP3Out: what is answered is the caller's.
func TestP3Out(t *testing.T) {
	n, g, p := roomy(t)
	s := begun(t, n, g, p, false)
	s.Go(2)
	f := s.Fork()
	told := textOf(s)
	a, b, c := s.Nodes(), s.Nodes(), f.Nodes()
	if shared(a, b, c, s.Waiting(), s.Waiting(), f.Waiting(), n, g, p) {
		t.Error("shared")
	}
	for _, l := range [][]Node{a, c} {
		for i := range l {
			clear(l[i].State.Locs[:cap(l[i].State.Locs)])
			clear(l[i].State.Vars[:cap(l[i].State.Vars)])
			l[i] = Node{}
		}
	}
	for _, l := range [][]int{s.Waiting(), f.Waiting()} {
		clear(l[:cap(l)])
	}
	same(t, s, told)
	same(t, f, told)
	o := begun(t, n, g, p, false)
	o.Go(50)
	s.Go(48)
	f.Go(48)
	same(t, s, textOf(o))
	same(t, f, textOf(o))
}

// TestP6Twice: nothing is kept between searches, and nothing hangs on chance.
func TestP6Twice(t *testing.T) {
	for _, last := range []bool{false, true} {
		a := sought(t, fischer(3, "> 2"), "P0.crit && P2.crit", last)
		b := sought(t, fischer(3, "> 2"), "P0.crit && P2.crit", last)
		for range 40 {
			a.Go(3)
			b.Go(3)
		}
		same(t, a, textOf(b))
	}
}

// TestE3Bounds: with numbers as great as may be no zone of a search passes the bounds.
func TestE3Bounds(t *testing.T) {
	top := api.MaxConst
	net := fmt.Sprintf(`clock a, b, c, d, e, f, g, h; int n in 0 .. 7 := 0;
		auto A { loc l inv a <= %[1]d;
			edge l -> l when a == %[1]d && n == 0 do a := 0, n := 1;
			edge l -> l when a == %[1]d && b >= %[1]d && n == 1 do a := %[1]d, b := 0, n := 2;
			edge l -> l when a == %[1]d && n == 2 do a := 0, c := %[1]d, n := 3;
			edge l -> l when a > 1048575 && c > %[1]d && d >= %[1]d do a := 0, d := 3, n := 0;
			edge l -> l when a >= 1 && e >= %[1]d do a := 0, e := %[1]d, f := 0;
			edge l -> l when f == %[1]d && g > 5 do g := 0, h := %[1]d; }`, top)
	for _, goal := range []string{fmt.Sprintf("h < %d && g > %d && b == %d", top, top, top), "f > 9 && c < 3"} {
		for _, last := range []bool{false, true} {
			s := sought(t, net, goal, last)
			s.Go(400)
			for _, d := range s.Nodes() {
				if d.Zone == nil {
					t.Fatal(d)
				}
				for _, m := range moves.Enabled(said(t, net), d.State) {
					if _, _, err := succ.Exactly(said(t, net), d.State, d.Zone, m); err != api.OK {
						t.Fatal(d, m, err)
					}
				}
			}
			if len(s.Nodes()) < 20 {
				t.Error(len(s.Nodes()))
			}
		}
	}
}

// TestP1Any: nothing panics, whatever it is given, and beside an error there is nothing.
func TestP1Any(t *testing.T) {
	r := source(14)
	wild := []int{math.MinInt, -1 << 32, -2, -1, 0, 0, 0, 1, 1, 2, 3, 255, 1 << 20, 1<<20 + 1, 1 << 32, math.MaxInt}
	any := func() int { return wild[r.IntN(len(wild))] }
	table := func(n api.Net) [][][]int {
		l := make([][][]int, max(0, len(n.Autos)+r.IntN(3)-1))
		for i := range l {
			for range r.IntN(4) {
				l[i] = append(l[i], []int{any(), any(), any()}[:r.IntN(4)])
			}
		}
		return l
	}
	nets := []api.Net{said(t, rich), said(t, small), said(t, "auto A { loc a; edge a -> a; }")}
	for _, w := range wrongNets(t) {
		nets = append(nets, w.n)
	}
	some := 0
	for range 10000 {
		n := nets[r.IntN(len(nets))]
		var p api.Plan
		if r.IntN(2) == 0 {
			p = api.Plan{Lo: table(n), Up: table(n)}
		}
		var g api.Goal
		for range r.IntN(3) {
			g = append(g, api.Part{Locs: []api.At{{Auto: any(), Loc: any()}}[:r.IntN(2)], Guards: []api.Guard{{Clock: any(), Other: any(), Cmp: api.Cmp(any()), N: any()}}[:r.IntN(2)], Test: []api.Node{{Op: api.Op(any()), N: any()}}[:r.IntN(2)]})
		}
		s, err := New(n, g, p, r.IntN(2) == 0)
		if (s == nil) != (err != api.OK) || check.Goal(n, g) != api.OK && err != check.Goal(n, g) {
			t.Fatal(n, g, p, err)
		}
		if s != nil {
			some++
		}
		s.Go(any() % 100)
		s.Go(r.IntN(9))
		textOf(s.Fork())
	}
	if some < 300 {
		t.Error(some)
	}
}
