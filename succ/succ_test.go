package succ

import (
	"fmt"
	"math/rand/v2"
	"slices"
	"testing"

	"gnomon/api"
	"gnomon/check"
	"gnomon/dbm"
	"gnomon/expr"
	"gnomon/extra"
	"gnomon/moves"
	"gnomon/net"
	"gnomon/ops"
	"gnomon/state"
)

// TestP15Examples: that of the chapter, and those of DOC.md that speak of one step.
func TestP15Examples(t *testing.T) {
	n := said(t, small)
	p := mustPlan(t)(Uniform(n, []int{5}))
	s, z, err := First(n, p)
	isAnswer(t, s, z, err)(at(0), zone(t, "1: x1-x0<=5"), api.OK)
	next, y, err := Behind(n, p, s, z, api.Move{})
	isAnswer(t, next, y, err)(at(1), zone(t, "1:"), api.OK)
	next, y, err = Exactly(n, s, z, api.Move{})
	isAnswer(t, next, y, err)(at(1), zone(t, "1: x1-x0<=0"), api.OK)
	part, err := Meets(n, s, z, aim(t, n, "A.a && x > 5"))
	isZone(t, part, err)(empty(t, 1), api.OK)
	// The invariant holds time at 5.
	n = said(t, "clock x; auto A { loc a inv x <= 5; loc b; edge a -> b when x > 5 do x := 0; }")
	_, z, _ = First(n, p)
	next, y, err = Behind(n, p, s, z, api.Move{})
	isAnswer(t, next, y, err)(at(1), empty(t, 1), api.OK)
	// A committed location: nobody else moves, and no time passes.
	n = said(t, "clock x; auto A { loc a; loc b; edge a -> b; } auto B { loc a committed; loc b; edge a -> b; }")
	s, z, err = First(n, api.Plan{})
	isAnswer(t, s, z, err)(at(0, 0), zone(t, "1:"), api.OK)
	p = mustPlan(t)(Uniform(n, []int{0}))
	s, z, err = First(n, p)
	isAnswer(t, s, z, err)(at(0, 0), zone(t, "1: x1-x0<=0"), api.OK)
	next, y, err = Behind(n, p, s, z, api.Move{})
	isAnswer(t, next, y, err)(api.State{}, nil, api.ErrMove)
	next, y, err = Behind(n, p, s, z, api.Move{Auto: 1})
	isAnswer(t, next, y, err)(at(0, 1), zone(t, "1:"), api.OK)
}

// TestP15_1Of: of each clock the greatest numbers of the locations where the automata are, -1 among them.
func TestP15_1Of(t *testing.T) {
	n := said(t, "clock x, y, z; auto A { loc a; loc b; } auto B { loc a; loc b; loc c; }")
	p := api.Plan{
		Lo: [][][]int{{{1, -1, -1}, {4, 2, 0}}, {{2, -1, -1}, {0, 9, -1}, {api.MaxConst, 0, -1}}},
		Up: [][][]int{{{0, -1, 3}, {-1, -1, -1}}, {{5, 6, -1}, {-1, -1, -1}, {0, 0, api.MaxConst}}},
	}
	for _, c := range []struct {
		s    api.State
		want string
	}{
		{at(0, 0), "{[2 -1 -1] [5 6 3]}"},
		{at(0, 1), "{[1 9 -1] [0 -1 3]}"},
		{at(0, 2), "{[1048576 0 -1] [0 0 1048576]}"},
		{at(1, 0), "{[4 2 0] [5 6 -1]}"},
		{at(1, 1), "{[4 9 0] [-1 -1 -1]}"},
		{at(1, 2), "{[1048576 2 0] [0 0 1048576]}"},
	} {
		if w, err := Of(n, p, c.s); fmt.Sprint(w) != c.want || err != api.OK {
			t.Error(c.s, w, err, c.want)
		}
	}
	r := source(1)
	for k := range 2000 {
		n := someNet(r, k%9, 6)
		s, p := someState(r, n), somePlan(r, n, 9)
		if w, err := Of(n, p, s); !alike(w, wantWiden(n, p, s)) || err != api.OK {
			t.Fatal(n, p, s, w, err)
		}
	}
}

// TestP15_1NoRows: a plan without rows stands for Uniform of check.Max, in all calls that take one.
func TestP15_1NoRows(t *testing.T) {
	n := said(t, small)
	if w, err := Of(n, api.Plan{}, at(0)); fmt.Sprint(w) != "{[5] [5]}" || err != api.OK {
		t.Error(w, err)
	}
	n = said(t, "clock x, y; auto A { loc a; loc b inv y < 9; edge a -> b when y == 11 do x := 3; }")
	if w, err := Of(n, api.Plan{Lo: [][][]int{}, Up: make([][][]int, 0, 3)}, at(0)); fmt.Sprint(w) != "{[-1 11] [-1 11]}" || err != api.OK {
		t.Error(w, err)
	}
	eachStep(t, 2, 60, 5, func(r *rand.Rand, c stepCase) {
		p := mustPlan(t)(Uniform(c.Net, check.Max(c.Net)))
		for _, none := range []api.Plan{{}, {Lo: [][][]int{}}, {Up: [][][]int{}}, {Lo: [][][]int{}, Up: [][][]int{}}} {
			w, err := Of(c.Net, none, c.s)
			if want, _ := Of(c.Net, p, c.s); !alike(w, want) || err != api.OK {
				t.Fatal(w, want, err)
			}
			s, z, err := First(c.Net, none)
			isAnswer(t, s, z, err)(First(c.Net, p))
			s, z, err = Behind(c.Net, none, c.s, c.z, c.m)
			isAnswer(t, s, z, err)(Behind(c.Net, p, c.s, c.z, c.m))
		}
	})
}

// TestP15_1First: all clocks 0, with the invariants; waited; widened.
func TestP15_1First(t *testing.T) {
	for _, c := range []struct {
		net    string
		lo, up []int
		want   string
	}{
		{"auto A { loc a; }", nil, nil, "0:"},
		{"auto A { loc a committed; }", nil, nil, "0:"},
		{"clock x; auto A { loc a; }", []int{3}, []int{3}, "1:"},
		{"clock x; auto A { loc a inv x <= 5; }", []int{5}, []int{0}, "1: x1-x0<=5"},
		{"clock x; auto A { loc a inv x < 5; }", []int{5}, []int{5}, "1: x1-x0<5"},
		{"clock x; auto A { loc a inv x <= 5; }", []int{4}, []int{9}, "1:"},
		{"clock x; auto A { loc a inv x <= 0; }", []int{0}, []int{0}, "1: x1-x0<=0"},
		{"clock x; auto A { loc a inv x == 0; }", []int{0}, []int{-1}, "1: x1-x0<=0"},
		{"clock x; auto A { loc a inv x == 0; }", []int{-1}, []int{0}, "1: x1-x0<=0"},
		{"clock x; auto A { loc a inv x == 0; }", []int{-1}, []int{-1}, "1:"},
		// What does not keep the invariants at the beginning never does.
		{"clock x; auto A { loc a inv x >= 1; }", []int{9}, []int{9}, "1: empty"},
		{"clock x; auto A { loc a inv x > 0; }", []int{9}, []int{9}, "1: empty"},
		{"clock x; auto A { loc a inv x < 0; }", []int{-1}, []int{-1}, "1: empty"},
		{"clock x; auto A { loc a urgent inv x <= 5; }", []int{9}, []int{9}, "1: x1-x0<=0"},
		{"clock x; auto A { loc a; } auto B { loc a committed; }", []int{9}, []int{9}, "1: x1-x0<=0"},
		{"clock x; auto A { loc a; } auto B { loc a urgent inv x >= 1; }", []int{9}, []int{9}, "1: empty"},
		// Of the first locations alone, of all automata.
		{"clock x; auto A { loc a inv x <= 5; loc b inv x <= 1; } auto B { loc a inv x <= 3; loc b urgent; }", []int{9}, []int{9}, "1: x1-x0<=3"},
		{"clock x, y; auto A { loc a inv x <= 5; }", []int{5, 0}, []int{5, 0}, "2: x1-x0<=5 x1-x2<=0 x2-x0<=5 x2-x1<=0"},
		{"clock x, y; auto A { loc a inv x <= 5; }", []int{5, -1}, []int{5, -1}, "2: x1-x0<=5 x1-x2<=5"},
		{"clock x, y; auto A { loc a inv x <= 5; }", []int{-1, 7}, []int{-1, 7}, "2: x2-x0<=5 x2-x1<=5"},
	} {
		n := said(t, c.net)
		p := api.Plan{Lo: everywhere(n, c.lo), Up: everywhere(n, c.up)}
		s, z, err := First(n, p)
		isAnswer(t, s, z, err)(at(make([]int, len(n.Autos))...), zone(t, c.want), api.OK)
	}
	n := said(t, "int n in -3 .. 9 := 4; int m in 0 .. 1 := 1; auto A { loc a; }")
	s, z, err := First(n, api.Plan{})
	isAnswer(t, s, z, err)(api.State{Locs: []int{0}, Vars: []int{4, 1}}, zone(t, "0:"), api.OK)
}

// TestP15_1FirstWords: by the words, of networks and plans of all kinds.
func TestP15_1FirstWords(t *testing.T) {
	r := source(3)
	full := 0
	for k := range 3000 {
		n := someNet(r, k%9, 6)
		p := somePlan(r, n, 9)
		first, _ := state.First(n)
		want := must(t)(dbm.Zero(len(n.Clocks)))
		want = must(t)(ops.Guards(want, invariantsOf(n, first)...))
		want = must(t)(wantWait(n, first, want))
		w := wantWiden(n, p, first)
		want = must(t)(extra.LU(want, w.Lo, w.Up))
		s, z, err := First(n, p)
		isAnswer(t, s, z, err)(first, want, api.OK)
		if !z.Empty() {
			full++
		}
	}
	if full < 1000 || full > 2900 {
		t.Error(full)
	}
}

// TestP15_1Exactly: guards of both edges, sets of both in their order, invariants behind the move; nothing else.
func TestP15_1Exactly(t *testing.T) {
	for _, c := range []struct {
		net, from, want string
		m               api.Move
	}{
		{"auto A { loc a; edge a -> a; }", "0:", "0:", api.Move{}},
		{"auto A { loc a; edge a -> a; }", "0: empty", "0: empty", api.Move{}},
		{"clock x; auto A { loc a; edge a -> a; }", "1: x0-x1<=-2 x1-x0<4", "1: x0-x1<=-2 x1-x0<4", api.Move{}},
		{"clock x; auto A { loc a; edge a -> a when x >= 3; }", "1: x0-x1<=-2 x1-x0<4", "1: x0-x1<=-3 x1-x0<4", api.Move{}},
		{"clock x; auto A { loc a; edge a -> a when x == 4; }", "1: x0-x1<=-2 x1-x0<4", "1: empty", api.Move{}},
		{"clock x; auto A { loc a; edge a -> a do x := 9; }", "1: x0-x1<=-2 x1-x0<4", "1: x0-x1<=-9 x1-x0<=9", api.Move{}},
		// Guards are held against what is there ahead of the sets, invariants against what is behind.
		{"clock x; auto A { loc a; loc b inv x <= 1; edge a -> b when x > 3 do x := 1; }", "1:", "1: x0-x1<=-1 x1-x0<=1", api.Move{}},
		{"clock x; auto A { loc a; loc b inv x > 1; edge a -> b when x > 3 do x := 1; }", "1:", "1: empty", api.Move{}},
		{"clock x; auto A { loc a; loc b inv x <= 5; edge a -> b when x > 3; }", "1:", "1: x0-x1<-3 x1-x0<=5", api.Move{}},
		// Those of the location ahead are not asked for, nor is time let pass.
		{"clock x; auto A { loc a inv x <= 5; loc b; edge a -> b; }", "1: x0-x1<=-7 x1-x0<=8", "1: x0-x1<=-7 x1-x0<=8", api.Move{}},
		// Who does not move keeps its invariant.
		{"clock x; auto A { loc a; edge a -> a; } auto B { loc a inv x < 2; }", "1:", "1: x1-x0<2", api.Move{}},
		// The last set of a clock stays; the sender's come first, though the other one is ahead of it.
		{"clock x, y; auto A { loc a; edge a -> a do x := 1, y := 2, x := 3; }", "2:", "2: x0-x1<=-3 x0-x2<=-2 x1-x0<=3 x1-x2<=1 x2-x0<=2 x2-x1<=-1", api.Move{}},
		{"clock x, y; chan c; auto A { loc a; edge a -> a sync c? do x := 5; } auto B { loc a; edge a -> a sync c! do x := 1, y := 2; }", "2:", "2: x0-x1<=-5 x0-x2<=-2 x1-x0<=5 x1-x2<=3 x2-x0<=2 x2-x1<=-3", api.Move{Auto: 1, With: 1}},
		{"clock x, y; chan c; auto A { loc a; edge a -> a sync c! do x := 5; } auto B { loc a; edge a -> a sync c? do x := 1, y := 2; }", "2:", "2: x0-x1<=-1 x0-x2<=-2 x1-x0<=1 x1-x2<=-1 x2-x0<=2 x2-x1<=1", api.Move{With: 2}},
		{"clock x, y; chan c; auto A { loc a; edge a -> a when x >= 1 sync c!; } auto B { loc a; edge a -> a when x <= 4 && y < 3 sync c?; }", "2:", "2: x0-x1<=-1 x1-x0<=4 x1-x2<=4 x2-x0<3 x2-x1<2", api.Move{With: 2}},
		{"clock x; chan c; auto A { loc a; edge a -> a when x >= 1 sync c!; } auto B { loc a; edge a -> a when x < 1 sync c?; }", "1:", "1: empty", api.Move{With: 2}},
		// Both take their invariants with them.
		{"clock x, y; chan c; auto A { loc a; loc b inv x >= 1; edge a -> b sync c!; } auto B { loc a inv x < 1; loc b inv y <= 3; edge a -> b sync c?; }", "2:", "2: x0-x1<=-1 x2-x0<=3 x2-x1<=2", api.Move{With: 2}},
	} {
		n := said(t, c.net)
		s, _ := state.First(n)
		next, y, err := Exactly(n, s, zone(t, c.from), c.m)
		want, _ := moves.After(n, s, c.m)
		if err != api.OK || y.Print() != c.want || !alike(next, want) {
			t.Error(c.net, next, y.Print(), err, "not", c.want)
		}
	}
}

// TestP15_1Behind: it waits in the state behind the move, and is widened by what the plan says of that one.
func TestP15_1Behind(t *testing.T) {
	for _, c := range []struct {
		net, want string
	}{
		{"clock x; auto A { loc a; loc b; edge a -> b do x := 1; }", "1: x0-x1<=-1"},
		{"clock x; auto A { loc a; loc b inv x <= 4; edge a -> b do x := 1; }", "1: x0-x1<=-1 x1-x0<=4"},
		{"clock x; auto A { loc a; loc b urgent inv x <= 4; edge a -> b do x := 1; }", "1: x0-x1<=-1 x1-x0<=1"},
		{"clock x; auto A { loc a; loc b committed; edge a -> b do x := 1; }", "1: x0-x1<=-1 x1-x0<=1"},
		// Time passes behind the move, though it may not ahead of it; not, if somebody else holds it.
		{"clock x; auto A { loc a urgent; loc b; edge a -> b do x := 1; }", "1: x0-x1<=-1"},
		{"clock x; auto A { loc a committed; loc b inv x < 3; edge a -> b do x := 1; }", "1: x0-x1<=-1 x1-x0<3"},
		{"clock x; auto A { loc a; loc b; edge a -> b do x := 1; } auto B { loc a urgent; }", "1: x0-x1<=-1 x1-x0<=1"},
		// The invariants must hold at once.
		{"clock x; auto A { loc a; loc b inv x >= 2; edge a -> b do x := 1; }", "1: empty"},
		{"clock x; auto A { loc a; loc b inv x <= 0; edge a -> b do x := 1; }", "1: empty"},
		// 6 is above Lo, and 9 is above Up, of the location behind: the one bound goes, the other one is less strict.
		{"clock x; auto A { loc a; loc b urgent; edge a -> b do x := 6; }", "1: x0-x1<=-6"},
		{"clock x; auto A { loc a; loc b urgent; edge a -> b do x := 9; }", "1: x0-x1<-7"},
	} {
		n := said(t, c.net)
		p := api.Plan{Lo: everywhere(n, []int{-1}), Up: everywhere(n, []int{-1})}
		p.Lo[0] = [][]int{{99}, {5}}
		p.Up[0] = [][]int{{88}, {7}}
		s, _ := state.First(n)
		next, y, err := Behind(n, p, s, zone(t, "1:"), api.Move{})
		if err != api.OK || y.Print() != c.want || next.Locs[0] != 1 {
			t.Error(c.net, next, y.Print(), err, "not", c.want)
		}
	}
}

// TestP15_1Wait: where time may pass, with the invariants; else as it is, though it does not keep them.
func TestP15_1Wait(t *testing.T) {
	n := said(t, "clock x, y; auto A { loc a inv x <= 5; loc b; loc u urgent inv x <= 5; loc c committed; } auto B { loc a inv y < 9; loc u urgent; }")
	from := zone(t, "2: x0-x1<=-1 x1-x0<=2 x1-x2<=1 x2-x0<4 x2-x1<3")
	for _, c := range []struct {
		s    api.State
		want string
	}{
		{at(0, 0), "2: x0-x1<=-1 x1-x0<=5 x1-x2<=1 x2-x0<8 x2-x1<3"},
		{at(1, 0), "2: x0-x1<=-1 x1-x0<10 x1-x2<=1 x2-x0<9 x2-x1<3"},
		{at(2, 0), from.Print()},
		{at(3, 0), from.Print()},
		{at(0, 1), from.Print()},
		{at(3, 1), from.Print()},
	} {
		z, err := Wait(n, c.s, from)
		if z.Print() != c.want || err != api.OK || z == from {
			t.Error(c.s, z.Print(), err)
		}
		// What is later than the invariants lets it is left by nothing but time that may pass.
		late := zone(t, "2: x0-x1<=-6 x0-x2<=-9")
		want := "2: empty"
		if c.s.Locs[0] > 1 || c.s.Locs[1] == 1 {
			want = late.Print()
		}
		if z, err := Wait(n, c.s, late); z.Print() != want || err != api.OK {
			t.Error(c.s, z.Print(), err)
		}
		z, err = Wait(n, c.s, empty(t, 2))
		isZone(t, z, err)(empty(t, 2), api.OK)
	}
	// An invariant from below holds of what was not there yet: it is asked for where time has passed.
	n = said(t, "clock x; auto A { loc a inv x >= 3 && x < 6; }")
	z, err := Wait(n, at(0), zone(t, "1: x1-x0<=1"))
	isZone(t, z, err)(zone(t, "1: x0-x1<=-3 x1-x0<6"), api.OK)
	n = said(t, "auto A { loc a; }")
	z, err = Wait(n, at(0), zone(t, "0:"))
	isZone(t, z, err)(zone(t, "0:"), api.OK)
}

// TestP15_1Words: Exactly, Behind and Wait by the words, call by call; of moves that are open, and any.
func TestP15_1Words(t *testing.T) {
	counts := map[string]int{}
	eachStep(t, 4, 400, 5, func(r *rand.Rand, c stepCase) {
		n, s, z, m := c.Net, c.s, c.z, someMove(r, c.Net, c.s)
		p := somePlan(r, n, 8)
		before := z.Print()
		next, y, err := Exactly(n, s, z, m)
		isAnswer(t, next, y, err)(wantExactly(n, s, z, m))
		counts[fmt.Sprint(err, y.Empty())]++
		next, y, err = Behind(n, p, s, z, m)
		isAnswer(t, next, y, err)(wantBehind(n, p, s, z, m))
		y, err = Wait(n, s, z)
		isZone(t, y, err)(wantWait(n, s, z))
		if z.Print() != before || y == z {
			t.Fatal(before, z.Print())
		}
	})
	for _, word := range []string{"0 true", "0 false", "213 false", "211 false"} {
		if counts[word] < 20 {
			t.Error(word, counts)
		}
	}
}

// TestP15_2Meets: the part's guards, if its locations are those of the state, and its test holds; else nothing.
func TestP15_2Meets(t *testing.T) {
	n := said(t, rich)
	from := zone(t, "2: x1-x0<=4 x1-x2<3 x2-x0<6 x2-x1<=2")
	for _, c := range []struct {
		part, want string
	}{
		{"true", from.Print()},
		{"A.b", from.Print()},
		{"B.u", from.Print()},
		{"A.b && B.u", from.Print()},
		{"A.b && A.b", from.Print()},
		{"A.a", "2: empty"},
		{"A.b && B.a", "2: empty"},
		{"A.a && B.u", "2: empty"},
		{"A.a && A.b", "2: empty"},
		{"n == 1", from.Print()},
		{"n == 1 && m < 4", from.Print()},
		{"n == 2", "2: empty"},
		{"A.b && n == 2", "2: empty"},
		{"A.a && n == 1", "2: empty"},
		{"(m == 3 || n == 7)", from.Print()},
		{"x >= 1", "2: x0-x1<=-1 x1-x0<=4 x1-x2<3 x2-x0<6 x2-x1<=2"},
		{"A.b && x >= 1 && n == 1", "2: x0-x1<=-1 x1-x0<=4 x1-x2<3 x2-x0<6 x2-x1<=2"},
		{"x > 4", "2: empty"},
		{"x == 4 && y == 4", "2: x0-x1<=-4 x0-x2<=-4 x1-x0<=4 x1-x2<=0 x2-x0<=4 x2-x1<=0"},
		{"x == 4 && y == 1", "2: empty"},
		{"A.a && x > 4 && n == 2", "2: empty"},
	} {
		z, err := Meets(n, richAt(1, 1, 1, 3), from, aim(t, n, c.part))
		if z.Print() != c.want || err != api.OK || z == from {
			t.Error(c.part, z.Print(), err)
		}
		z, err = Meets(n, richAt(1, 1, 1, 3), empty(t, 2), aim(t, n, c.part))
		isZone(t, z, err)(empty(t, 2), api.OK)
	}
	// Neither time nor an invariant plays a part.
	n = said(t, "clock x; auto A { loc a inv x <= 1; }")
	z, err := Meets(n, at(0), zone(t, "1: x0-x1<=-3"), aim(t, n, "A.a && x < 5"))
	isZone(t, z, err)(zone(t, "1: x0-x1<=-3 x1-x0<5"), api.OK)
	n = said(t, "int n in 0 .. 1 := 0; auto A { loc a; }")
	z, err = Meets(n, api.State{Locs: []int{0}, Vars: []int{1}}, zone(t, "0:"), aim(t, n, "n == 1"))
	isZone(t, z, err)(zone(t, "0:"), api.OK)
	z, err = Meets(n, api.State{Locs: []int{0}, Vars: []int{0}}, zone(t, "0:"), aim(t, n, "n == 1"))
	isZone(t, z, err)(empty(t, 0), api.OK)
}

// TestP15_2NoValue: a test without a value does not hold; one that is not looked at plays no part.
func TestP15_2NoValue(t *testing.T) {
	n := said(t, "clock x; int n in 0 .. 1048576 := 0; auto A { loc a; }")
	s := api.State{Locs: []int{0}, Vars: []int{1 << 20}}
	over := "n * n * n * n * n"
	for part, want := range map[string]string{
		over + " > 0":                "1: empty",
		"!(" + over + " > 0)":        "1: empty",
		over + " > 0 || n > 0":       "1: empty",
		"n == 0 || " + over + " > 0": "1: empty",
	} {
		z, err := Meets(n, s, zone(t, "1:"), aim(t, n, "x >= 0 && ("+part+")"))
		if z.Print() != want || err != api.OK {
			t.Error(part, z.Print(), err)
		}
	}
	z, err := Meets(n, s, zone(t, "1:"), aim(t, n, "(n > 0 || "+over+" > 0)"))
	isZone(t, z, err)(zone(t, "1:"), api.OK)
}

// TestP15_2Words: of parts of all kinds.
func TestP15_2Words(t *testing.T) {
	counts := map[bool]int{}
	eachStep(t, 5, 300, 5, func(r *rand.Rand, c stepCase) {
		g := api.Part{Guards: someGuards(r, len(c.Clocks), 6)}
		is := true
		for range r.IntN(3) {
			auto := r.IntN(len(c.Autos))
			loc := r.IntN(len(c.Autos[auto].Locs))
			g.Locs = append(g.Locs, api.At{Auto: auto, Loc: loc})
			is = is && c.s.Locs[auto] == loc
		}
		if len(c.Vars) > 0 && r.IntN(2) == 0 {
			g.Test = []api.Node{{Op: api.Less}, {Op: api.Var}, {Op: api.Num, N: 1 + r.IntN(2)}}
			holds, _ := expr.Holds(g.Test, c.s.Vars)
			is = is && holds
		}
		want := empty(t, c.z.Dim())
		if is {
			want = must(t)(ops.Guards(c.z, g.Guards...))
		}
		z, err := Meets(c.Net, c.s, c.z, g)
		isZone(t, z, err)(want, api.OK)
		counts[z.Empty()]++
	})
	if counts[true] < 500 || counts[false] < 500 {
		t.Error(counts)
	}
}

// TestP15_2Errors: parts that are not right, each with check.Goal's error, ahead of ErrState.
func TestP15_2Errors(t *testing.T) {
	n := said(t, rich)
	for _, c := range []struct {
		part api.Part
		err  api.Errno
	}{
		{api.Part{Locs: make([]api.At, api.MaxGoal+1)}, api.ErrLong},
		{api.Part{Guards: make([]api.Guard, api.MaxGuards+1)}, api.ErrLong},
		{api.Part{Test: make([]api.Node, api.MaxNodes+1)}, api.ErrLong},
		{api.Part{Locs: []api.At{{Auto: 2}}}, api.ErrLoc},
		{api.Part{Locs: []api.At{{Auto: -1}}}, api.ErrLoc},
		{api.Part{Locs: []api.At{{Loc: 3}}}, api.ErrLoc},
		{api.Part{Locs: []api.At{{Loc: -1}}}, api.ErrLoc},
		{api.Part{Guards: []api.Guard{{Cmp: api.Lt}}}, api.ErrClock},
		{api.Part{Guards: []api.Guard{{Clock: 3, Cmp: api.Lt}}}, api.ErrClock},
		{api.Part{Guards: []api.Guard{{Clock: 1}}}, api.ErrForm},
		{api.Part{Guards: []api.Guard{{Clock: 1, Cmp: 6}}}, api.ErrForm},
		{api.Part{Test: []api.Node{{Op: api.Var, N: 1}}}, api.ErrTest},
		{api.Part{Test: []api.Node{{Op: api.Not}}}, api.ErrTest},
		{api.Part{Guards: []api.Guard{{Clock: 1, Other: 2, Cmp: api.Lt}}}, api.ErrDiagonal},
		{api.Part{Guards: []api.Guard{{Clock: 1, Other: 1, Cmp: api.Lt, N: -1}}}, api.ErrDiagonal},
		{api.Part{Guards: []api.Guard{{Clock: 1, Cmp: api.Lt, N: -1}}}, api.ErrConst},
		{api.Part{Guards: []api.Guard{{Clock: 2, Cmp: api.Gt, N: api.MaxConst + 1}}}, api.ErrConst},
	} {
		if err := check.Goal(n, api.Goal{c.part}); err != c.err {
			t.Fatal(c.part, err)
		}
		for _, s := range append(wrongStates(), richAt(0, 0, 0, 2)) {
			for _, z := range []*dbm.Zone{nil, zone(t, "1:"), zone(t, "2:"), empty(t, 2)} {
				got, err := Meets(n, s, z, c.part)
				isZone(t, got, err)(nil, c.err)
			}
		}
		for _, w := range wrongNets(t) {
			got, err := Meets(w.Net, richAt(0, 0, 0, 2), zone(t, "2:"), c.part)
			isZone(t, got, err)(nil, w.err)
		}
	}
}

// TestP15_3Uniform: the same numbers in each place.
func TestP15_3Uniform(t *testing.T) {
	n := said(t, rich)
	p, err := Uniform(n, []int{-1, api.MaxConst})
	if fmt.Sprint(p.Lo) != "[[[-1 1048576] [-1 1048576] [-1 1048576]] [[-1 1048576] [-1 1048576] [-1 1048576]]]" || !alike(p.Lo, p.Up) || err != api.OK {
		t.Error(p, err)
	}
	p, err = Uniform(said(t, "auto A { loc a; loc b; } auto B { loc a; }"), nil)
	if fmt.Sprint(p) != "{[[[] []] [[]]] [[[] []] [[]]]}" || err != api.OK {
		t.Error(p, err)
	}
	r := source(6)
	for k := range 500 {
		n := someNet(r, k%9, 5)
		most := make([]int, len(n.Clocks))
		for c := range most {
			most[c] = r.IntN(api.MaxConst+2) - 1
		}
		p := mustPlan(t)(Uniform(n, most))
		s := someState(r, n)
		w, err := Of(n, p, s)
		if !slices.Equal(w.Lo, most) || !slices.Equal(w.Up, most) || err != api.OK {
			t.Fatal(w, most, err)
		}
	}
	// Two clocks that are held against one another can't be searched; but the network is whole.
	n = said(t, rich)
	n.Autos[0].Edges[0].Guards[0].Other = 2
	if p, err := Uniform(n, []int{3, 4}); len(p.Lo) != 2 || err != api.OK {
		t.Error(p, err)
	}
}

// TestP15_3Errors: ErrForm, then ErrLong, then ErrConst.
func TestP15_3Errors(t *testing.T) {
	n := said(t, rich)
	none := func(n api.Net, most []int, want api.Errno) {
		t.Helper()
		if p, err := Uniform(n, most); err != want || p.Lo != nil || p.Up != nil {
			t.Error(most, p, err, want)
		}
	}
	long := [][]int{nil, {}, {1}, {-2}, {1, 2, 3}, {1, -2, 3}, make([]int, 9)}
	consts := [][]int{{-2, 0}, {0, -2}, {api.MaxConst + 1, 0}, {0, api.MaxConst + 1}, {-1 << 63, 1<<63 - 1}, {0, 1 << 32}}
	for _, most := range long {
		none(n, most, api.ErrLong)
	}
	for _, most := range consts {
		none(n, most, api.ErrConst)
	}
	for _, w := range wrongNets(t) {
		if net.Right(w.Net) {
			continue
		}
		for _, most := range slices.Concat(long, consts, [][]int{{1, 2}}) {
			none(w.Net, most, api.ErrForm)
		}
	}
	none(said(t, "auto A { loc a; }"), []int{0}, api.ErrLong)
}

// given is what a call is handed, each of it right or with its error.
type given struct {
	net   wrong
	plan  api.Plan
	state api.State
	zone  *dbm.Zone
	move  api.Move
	errs  [5]api.Errno // of each of these
}

// eachGiven hands on all ways in which what is handed in may be right or not.
func eachGiven(t *testing.T, try func(g given)) {
	t.Helper()
	n := said(t, rich)
	good := mustPlan(t)(Uniform(n, []int{9, 9}))
	nets := append(wrongNets(t), wrong{n, api.OK})
	plans := append(wrongPlans(good), api.Plan{}, good)
	states := append(wrongStates(), richAt(0, 0, 0, 2))
	zones := []*dbm.Zone{nil, zone(t, "0:"), zone(t, "1:"), zone(t, "3:"), empty(t, 1), empty(t, 3), empty(t, 2), zone(t, "2:")}
	zoneErrs := []api.Errno{api.ErrNil, api.ErrDim, api.ErrDim, api.ErrDim, api.ErrDim, api.ErrDim, api.OK, api.OK}
	list := []api.Move{{Auto: -1}, {Auto: 9}, {Edge: 2}, {With: 2, Take: 1}, {Edge: 3, With: 2, Take: 2}, {Edge: 1}, {With: 2}}
	moveErrs := []api.Errno{api.ErrMove, api.ErrMove, api.ErrMove, api.ErrMove, api.ErrMove, api.OK, api.OK}
	r := source(7)
	for range 30000 {
		// Of each the right ones come up as often as the others, so that each error is met behind all that are right.
		pick := func(many, right int) int {
			if r.IntN(2) == 0 {
				return many - 1 - r.IntN(right)
			}
			return r.IntN(many)
		}
		i, j, k, l, m := pick(len(nets), 1), pick(len(plans), 2), pick(len(states), 1), pick(len(zones), 2), pick(len(list), 2)
		g := given{net: nets[i], plan: plans[j], state: states[k], zone: zones[l], move: list[m]}
		g.errs = [5]api.Errno{nets[i].err, api.OK, api.OK, zoneErrs[l], moveErrs[m]}
		if j < len(plans)-2 {
			g.errs[1] = api.ErrForm
		}
		if k < len(states)-1 {
			g.errs[2] = api.ErrState
		}
		try(g)
	}
}

// first is the first error of those that a call may meet.
func (g given) first(which ...int) api.Errno {
	for _, i := range which {
		if g.errs[i] != api.OK {
			return g.errs[i]
		}
	}
	return api.OK
}

// TestP15Errors: the error that is named first, where several apply; nothing beside it; an empty zone leads to an empty one.
func TestP15Errors(t *testing.T) {
	counts := map[api.Errno]int{}
	eachGiven(t, func(g given) {
		n, p, s, z, m := g.net.Net, g.plan, g.state, g.zone, g.move
		isNone := func(err, want api.Errno, next api.State, y *dbm.Zone) {
			t.Helper()
			if err != want || err != api.OK && (next.Locs != nil || next.Vars != nil || y != nil) || err == api.OK && (y == nil || z.Empty() && !y.Empty()) {
				t.Fatal(g, err, want, next, y.Print())
			}
			counts[err]++
		}
		w, err := Of(n, p, s)
		if want := g.first(0, 1, 2); err != want || err != api.OK && (w.Lo != nil || w.Up != nil) || err == api.OK && len(w.Lo) != 2 {
			t.Fatal(g, w, err, want)
		}
		next, y, err := Behind(n, p, s, z, m)
		isNone(err, g.first(0, 1, 2, 3, 4), next, y)
		next, y, err = Exactly(n, s, z, m)
		isNone(err, g.first(0, 2, 3, 4), next, y)
		y, err = Wait(n, s, z)
		isNone(err, g.first(0, 2, 3), api.State{}, y)
		y, err = Meets(n, s, z, api.Part{})
		isNone(err, g.first(0, 2, 3), api.State{}, y)
		next, y, err = First(n, p)
		if want := g.first(0, 1); err != want || (y == nil) != (err != api.OK) || err != api.OK && (next.Locs != nil || next.Vars != nil) {
			t.Fatal(g, next, y.Print(), err, want)
		}
	})
	for _, err := range []api.Errno{api.OK, api.ErrRange, api.ErrLong, api.ErrName, api.ErrVar, api.ErrLoc, api.ErrEdge, api.ErrClock, api.ErrForm, api.ErrTest, api.ErrDiagonal, api.ErrConst, api.ErrState, api.ErrNil, api.ErrDim, api.ErrMove} {
		if counts[err] < 100 {
			t.Error(err, counts[err])
		}
	}
}

// TestP15NotOpen: moves.After's error: of moves that are none, or not open, ErrMove ahead of ErrGuard.
func TestP15NotOpen(t *testing.T) {
	n := said(t, rich)
	p := mustPlan(t)(Uniform(n, []int{9, 9}))
	for _, c := range []struct {
		s   api.State
		m   api.Move
		err api.Errno
	}{
		{richAt(0, 0, 0, 2), api.Move{}, api.ErrMove},
		{richAt(0, 0, 0, 2), api.Move{Edge: 4}, api.ErrMove},
		{richAt(1, 0, 0, 2), api.Move{With: 2}, api.ErrMove},
		{richAt(0, 1, 0, 2), api.Move{With: 2}, api.ErrMove},
		{richAt(0, 1, 3, -2), api.Move{With: 2}, api.ErrMove},
		{richAt(0, 0, 3, 2), api.Move{With: 2}, api.ErrGuard},
		{richAt(0, 0, 0, 0), api.Move{With: 2}, api.ErrGuard},
		{richAt(0, 0, 0, 5), api.Move{With: 2}, api.ErrGuard},
		{richAt(0, 0, 1, 2), api.Move{Edge: 1}, api.ErrGuard},
		{richAt(2, 1, 0, 2), api.Move{Auto: 1, Edge: 1}, api.ErrMove},
		{richAt(2, 1, 0, 2), api.Move{Edge: 2}, api.OK},
	} {
		// Whether the zone lets the guards of clocks hold is not asked for: that is no error.
		for _, z := range []*dbm.Zone{zone(t, "2:"), zone(t, "2: x1-x0<=0 x1-x2<=0"), empty(t, 2)} {
			want, wantErr := moves.After(n, c.s, c.m)
			next, _, err := Exactly(n, c.s, z, c.m)
			if err != c.err || wantErr != c.err || !alike(next, want) {
				t.Error(c, next, err)
			}
			next, y, err := Behind(n, p, c.s, z, c.m)
			if err != c.err || !alike(next, want) || err != api.OK && y != nil {
				t.Error(c, next, y.Print(), err)
			}
		}
		next, y, err := Exactly(n, c.s, nil, c.m)
		isAnswer(t, next, y, err)(api.State{}, nil, api.ErrNil)
		next, y, err = Behind(n, p, c.s, zone(t, "3:"), c.m)
		isAnswer(t, next, y, err)(api.State{}, nil, api.ErrDim)
	}
}
