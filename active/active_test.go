package active

import (
	"fmt"
	"math"
	"slices"
	"testing"

	"gnomon/api"
	"gnomon/check"
)

// TestP24Examples: that of the chapter.
func TestP24Examples(t *testing.T) {
	n := said(t, small)
	g := aim(t, n, "x > 7")
	are(t, 1)(Clocks(n, 0, 0))
	are(t)(Clocks(n, 0, 1))
	are(t, 1)(Clocks(n, 0, 0, g))
	are(t, 1)(Clocks(n, 0, 1, g))
	isPlan(t, [][][]int{{{5}, {-1}}})(Plan(n))
	isPlan(t, [][][]int{{{7}, {7}}})(Plan(n, g))
	are(t)(Idle(n, api.State{Locs: []int{0}}))
	are(t, 1)(Idle(n, api.State{Locs: []int{1}}))
	are(t)(Idle(n, api.State{Locs: []int{1}}, g))
}

// TestP24_1Clocks: of one automaton the clocks that are active at each location.
func TestP24_1Clocks(t *testing.T) {
	for _, w := range []struct {
		auto string
		want [][]int
	}{
		// Used by an invariant, by an edge that leads from there, by nobody.
		{"loc a inv x <= 5; loc b; edge b -> b;", [][]int{{1}, nil}}, {"loc a; loc b; edge a -> b when y > 3;", [][]int{{2}, nil}}, {"loc a; loc b; edge b -> a when y > 3;", [][]int{nil, {2}}}, {"loc a; loc b; edge a -> b;", [][]int{nil, nil}}, {"loc a; edge a -> a do x := 1;", [][]int{nil}}, {"loc a inv z < 3 && x > 0; edge a -> a when y == 1;", [][]int{{1, 2, 3}}}, {"loc a inv z < 3 && x >= 0 && z < 1;", [][]int{{1, 3}}},
		// A clock that an edge holds and sets is used.
		{"loc a; edge a -> a when x > 3 do x := 0;", [][]int{{1}}}, {"loc a; loc b; edge a -> b when x > 3 do x := 0;", [][]int{{1}, nil}},
		// Along several edges.
		{"loc a; loc b; loc c; loc d inv x < 3; edge a -> b; edge b -> c; edge c -> d;", [][]int{{1}, {1}, {1}, {1}}}, {"loc a; loc b; loc c; loc d; edge c -> d when x < 3; edge b -> c; edge a -> b;", [][]int{{1}, {1}, {1}, nil}}, {"loc d inv x < 3; loc c; loc b; loc a; edge a -> b; edge b -> c; edge c -> d;", [][]int{{1}, {1}, {1}, {1}}},
		// Not behind a set, whatever it is set to, and wherever it stands.
		{"loc a; loc b inv x < 3; edge a -> b do x := 0;", [][]int{nil, {1}}}, {"loc a; loc b inv x < 3; edge a -> b do x := 9;", [][]int{nil, {1}}}, {"loc a; loc b inv x < 3 && y < 3; edge a -> b do z := 0, x := 1;", [][]int{{2}, {1, 2}}}, {"loc a; loc b; loc c inv x < 3; edge a -> b; edge b -> c do x := 0;", [][]int{nil, nil, {1}}}, {"loc a; loc b; loc c inv x < 3; edge a -> b do x := 0; edge b -> c;", [][]int{nil, {1}, {1}}},
		// One of two edges sets it.
		{"loc a; loc b inv x < 3; edge a -> b do x := 0; edge a -> b;", [][]int{{1}, {1}}}, {"loc a; loc b inv x < 3; edge a -> b; edge a -> b do x := 0;", [][]int{{1}, {1}}}, {"loc a; loc b inv x < 3; loc c inv y < 3; edge a -> b do x := 0; edge a -> c do y := 0; edge b -> c; edge c -> b;", [][]int{{1, 2}, {1, 2}, {1, 2}}}, {"loc a; loc b inv x < 3; loc c inv y < 3; edge a -> b do x := 0; edge a -> c do y := 0;", [][]int{nil, {1}, {2}}},
		// Round circles.
		{"loc a; loc b; loc c; edge a -> b; edge b -> c; edge c -> a;", [][]int{nil, nil, nil}}, {"loc a; loc b; loc c; edge a -> b when x > 1; edge b -> c; edge c -> a;", [][]int{{1}, {1}, {1}}}, {"loc a; loc b; loc c; edge a -> b when x > 1; edge b -> c; edge c -> a do x := 0;", [][]int{{1}, nil, nil}}, {"loc a; loc b; loc c; edge a -> b when x > 1; edge b -> c do x := 0; edge c -> a;", [][]int{{1}, nil, {1}}}, {"loc a; loc b; edge a -> a do x := 0; edge a -> b; edge b -> b when x < 3 && y > 1 do y := 0;", [][]int{{1, 2}, {1, 2}}}, {"loc a; edge a -> a; edge a -> a do x := 0;", [][]int{nil}},
		// Back along edges only, not forward.
		{"loc a inv x < 3; loc b; edge a -> b;", [][]int{{1}, nil}}, {"loc a; loc b inv x < 3; loc c; edge a -> b; edge b -> c;", [][]int{{1}, {1}, nil}},
		// Locations that nothing leads to, and none leads from.
		{"loc a; loc b; loc c inv y > 0; loc d; edge d -> c;", [][]int{nil, nil, {2}, {2}}},
		// What variables are held against, and set to, plays no part; nor does it whether a test, a guard or an invariant ever holds, nor what kind a location is.
		{"loc a; loc b; edge a -> b when n < 3 do n := n + 1;", [][]int{nil, nil}}, {"loc a; loc b inv x < 3; edge a -> b when n < 0 do n := 0;", [][]int{{1}, {1}}}, {"loc a urgent; loc b committed inv x < 0; edge a -> b;", [][]int{{1}, {1}}}, {"loc a; loc b; edge a -> b when x < 0 && n == 4 do x := 0, n := 9;", [][]int{{1}, nil}},
		// Nor does a channel.
		{"loc a; loc b inv x < 3; edge a -> b sync c!;", [][]int{{1}, {1}}}, {"loc a; loc b; edge a -> b when x > 3 sync c? do x := 0;", [][]int{{1}, nil}},
	} {
		for _, text := range []string{"clock x, y, z; int n in 0 .. 3 := 0; chan c; auto A { %s }", "clock x, y, z; int n in 0 .. 3 := 0; chan c; auto B { loc a inv x < 3 && y < 3 && z < 3; loc b; } auto A { %s } auto D { loc a; edge a -> a when x > 1 && y > 1 sync c? do x := 0, y := 0, z := 0; }"} {
			n := said(t, fmt.Sprintf(text, w.auto))
			// The other automata play no part.
			auto := min(1, len(n.Autos)-1)
			for loc, want := range w.want {
				are(t, want...)(Clocks(n, auto, loc))
				are(t, want...)(Clocks(n, auto, loc, nil))
				are(t, want...)(Clocks(n, auto, loc, nil, api.Goal{}, api.Goal{{}}))
				are(t, append(slices.DeleteFunc(slices.Clone(want), func(c int) bool { return c == 3 }), 3)...)(Clocks(n, auto, loc, aim(t, n, "z > 1")))
			}
			if t.Failed() {
				t.Fatal(w)
			}
		}
	}
	// As many clocks and locations as may be.
	text := "clock p, q, r, s, t, u, v, w; auto A {"
	for i := range api.MaxLocs {
		text += fmt.Sprintf("loc l%d; ", i)
	}
	for i := range api.MaxLocs - 1 {
		text += fmt.Sprintf("edge l%d -> l%d; ", i, i+1)
	}
	n := said(t, text+"edge l63 -> l63 when w > 3 && p < 1; }")
	for loc := range api.MaxLocs {
		are(t, 1, 8)(Clocks(n, 0, loc))
	}
}

// TestP24_1Goals: of all goals, all parts, at every location.
func TestP24_1Goals(t *testing.T) {
	n := said(t, "clock x, y, z; auto A { loc a; loc b inv y < 2; edge a -> b do x := 0, y := 0, z := 0; } auto B { loc a; }")
	g, h, k := aim(t, n, "A.b && x > 7"), aim(t, n, "A.a || B.a && z <= 1 && x == 2"), aim(t, n, "true")
	for _, w := range []struct {
		goals []api.Goal
		want  []int
	}{{nil, nil}, {[]api.Goal{k}, nil}, {[]api.Goal{g}, []int{1}}, {[]api.Goal{h}, []int{1, 3}}, {[]api.Goal{g, h, k}, []int{1, 3}}, {[]api.Goal{k, g}, []int{1}}, {[]api.Goal{h, h}, []int{1, 3}}, {[]api.Goal{nil, {}, g}, []int{1}}} {
		are(t, w.want...)(Clocks(n, 0, 0, w.goals...))
		are(t, w.want...)(Clocks(n, 1, 0, w.goals...))
		both := append(slices.Clone(w.want), 2)
		slices.Sort(both)
		are(t, both...)(Clocks(n, 0, 1, w.goals...))
	}
}

// TestP24_1Loc: automata and locations that are none.
func TestP24_1Loc(t *testing.T) {
	n := said(t, rich)
	g := aim(t, n, richGoal)
	for _, w := range [][2]int{{2, 0}, {-1, 0}, {0, 3}, {0, -1}, {1, 3}, {2, 3}, {-1, -1}, {math.MaxInt, 0}, {math.MinInt, 0}, {0, math.MaxInt}, {1, math.MinInt}, {1 << 32, 0}, {0, 64}} {
		areNone(t, api.ErrLoc)(Clocks(n, w[0], w[1]))
		areNone(t, api.ErrLoc)(Clocks(n, w[0], w[1], g, nil))
	}
	are(t, 1, 2)(Clocks(n, 1, 2, g))
}

// TestP24_1Errors: networks, then goals, that are not right; the first goal that has an error; then all else.
func TestP24_1Errors(t *testing.T) {
	refused := func(err api.Errno, n api.Net, g ...api.Goal) {
		t.Helper()
		for _, at := range [][2]int{{0, 0}, {1, 2}, {9, 9}, {-1, 0}} {
			areNone(t, err)(Clocks(n, at[0], at[1], g...))
		}
		isNoPlan(t, err)(Plan(n, g...))
		for _, s := range append(wrongStates(), api.State{Locs: []int{0, 0}, Vars: []int{0, 2}}) {
			areNone(t, err)(Idle(n, s, g...))
		}
	}
	n := said(t, rich)
	right, goals := aim(t, n, richGoal), wrongGoals(t)
	for _, w := range wrongNets(t) {
		refused(w.err, w.n)
		refused(w.err, w.n, nil, right)
		for _, x := range goals {
			refused(w.err, w.n, x.g)
		}
	}
	for i, w := range goals {
		other := goals[(i+1+i%3)%len(goals)]
		refused(w.err, n, w.g)
		refused(w.err, n, right, w.g)
		refused(w.err, n, nil, w.g, right)
		refused(w.err, n, w.g, other.g)
		refused(other.err, n, right, other.g, w.g)
	}
}

// TestP24_1Plan: the numbers of check.Max of all goals where a clock is active, in Lo and in Up; -1 elsewhere.
func TestP24_1Plan(t *testing.T) {
	n := said(t, rich)
	// All ways from A.a and A.k to where y is held set it; so do those of x from B.a, and of y from B.b.
	isPlan(t, [][][]int{{{9, -1}, {9, 7}, {9, -1}}, {{-1, 7}, {9, 7}, {9, -1}}})(Plan(n))
	isPlan(t, [][][]int{{{20, 12}, {20, 12}, {20, 12}}, {{20, 12}, {20, 12}, {20, 12}}})(Plan(n, aim(t, n, richGoal)))
	isPlan(t, [][][]int{{{20, -1}, {20, 7}, {20, -1}}, {{20, 7}, {20, 7}, {20, -1}}})(Plan(n, aim(t, n, "x < 20"), aim(t, n, "x > 8")))
	for _, w := range []struct {
		net   string
		goals []string
		want  [][][]int
	}{
		{"auto A { loc a; loc b; } auto B { loc a; }", nil, [][][]int{{{}, {}}, {{}}}}, {"auto A { loc a; loc b; } auto B { loc a; }", []string{"A.b", "true"}, [][][]int{{{}, {}}, {{}}}},
		{"clock x, y; auto A { loc a; loc b; } auto B { loc a; }", nil, [][][]int{{{-1, -1}, {-1, -1}}, {{-1, -1}}}}, {"clock x, y; auto A { loc a; loc b; } auto B { loc a; }", []string{"y > 3", "y <= 2", "A.b"}, [][][]int{{{-1, 3}, {-1, 3}}, {{-1, 3}}}},
		// A number of 0 is one; that of one automaton, where it is greater, is that of the other, too.
		{"clock x; auto A { loc a inv x >= 0; loc b; }", nil, [][][]int{{{0}, {-1}}}}, {"clock x; auto A { loc a inv x >= 2; loc b; edge b -> b when x > 1; } auto B { loc a; loc b inv x < 9; edge a -> b do x := 0; }", nil, [][][]int{{{9}, {9}}, {{-1}, {9}}}}, {"clock x; auto A { loc a inv x <= 1048576; }", nil, [][][]int{{{api.MaxConst}}}},
	} {
		n := said(t, w.net)
		var goals []api.Goal
		for _, s := range w.goals {
			goals = append(goals, aim(t, n, s))
		}
		isPlan(t, w.want)(Plan(n, goals...))
	}
}

// TestP24_1Idle: clocks that are active at none of the locations; states that are none.
func TestP24_1Idle(t *testing.T) {
	n := said(t, "clock x, y, z; int n in 0 .. 1 := 0; auto A { loc a inv x <= 5; loc b; loc c; edge b -> c do y := 0; edge c -> a when y > 2; } auto B { loc a; loc b inv x > 0; edge a -> b do x := 1; } auto D { loc a; loc b inv z < 0; }")
	for _, w := range []struct {
		state []int
		want  []int
	}{
		{[]int{0, 0, 0}, []int{2, 3}}, {[]int{1, 0, 0}, []int{2, 3}}, {[]int{2, 0, 0}, []int{3}}, {[]int{1, 1, 0}, []int{2, 3}}, {[]int{2, 1, 1}, nil}, {[]int{0, 0, 1}, []int{2}}, {[]int{0, 1, 1}, []int{2}},
	} {
		s := api.State{Locs: w.state, Vars: []int{1}}
		are(t, w.want...)(Idle(n, s))
		are(t, slices.DeleteFunc(slices.Clone(w.want), func(c int) bool { return c == 2 })...)(Idle(n, s, nil, aim(t, n, "y > 0 || A.b")))
	}
	for _, s := range wrongStates() {
		m := said(t, rich)
		areNone(t, api.ErrState)(Idle(m, s))
		areNone(t, api.ErrState)(Idle(m, s, aim(t, m, richGoal), nil))
	}
	// Held against 0, a clock is active all the same.
	n = said(t, "clock x, y; auto A { loc a inv x >= 0; loc b; edge a -> b do x := 0; }")
	are(t, 2)(Idle(n, api.State{Locs: []int{0}}))
	are(t, 1, 2)(Idle(n, api.State{Locs: []int{1}}))
	are(t)(Idle(said(t, "auto A { loc a; }"), api.State{Locs: []int{0}}))
}

// TestP3Lists: what is handed in stays as it is, spare room too; what is answered is the caller's.
func TestP3Lists(t *testing.T) {
	n := said(t, rich)
	goals := append(make([]api.Goal, 0, 4), aim(t, n, "x > 3"), aim(t, n, richGoal))
	s := api.State{Locs: append([]int{2, 2}, 7, 7)[:2], Vars: append([]int{0, 2}, 7, 7)[:2]}
	told := func() string {
		return fmt.Sprint(n, goals[:cap(goals)], s.Locs[:cap(s.Locs)], s.Vars[:cap(s.Vars)])
	}
	before := told()
	var answers []any
	for range 2 {
		for _, g := range [][]api.Goal{nil, goals[:1], goals} {
			l, _ := Clocks(n, 0, 0, g...)
			p, _ := Plan(n, g...)
			answers = append(answers, l, p)
		}
		l, _ := Idle(n, s)
		m, _ := Idle(n, s, aim(t, n, "A.a"))
		answers = append(answers, l, m)
		if len(l) != 1 || len(m) != 1 {
			t.Error(l, m)
		}
	}
	if shared(append(answers, n, goals, s)...) {
		t.Error("shared")
	}
	for _, a := range answers {
		switch x := a.(type) {
		case []int:
			clear(x[:cap(x)])
		case api.Plan:
			for _, table := range append(x.Lo, x.Up...) {
				for _, numbers := range table {
					clear(numbers[:cap(numbers)])
				}
			}
		}
	}
	if told() != before {
		t.Error("changed")
	}
	are(t, 2)(Idle(n, s))
}

// TestP1Any: nothing panics, whatever it is given, and beside an error there is nothing.
func TestP1Any(t *testing.T) {
	r := source(1)
	any := func() int { return wild[r.IntN(len(wild))] }
	some := func(k int) []int {
		var l []int
		for range k {
			l = append(l, any()*r.IntN(2))
		}
		return l
	}
	var nets []api.Net
	for _, w := range wrongNets(t) {
		nets = append(nets, w.n)
	}
	nets = append(nets, said(t, small), said(t, "auto A { loc a; }"))
	nets = append(nets, slices.Repeat([]api.Net{said(t, rich)}, 20)...)
	goals := []api.Goal{nil, {}, {{}}, aim(t, said(t, rich), richGoal), make(api.Goal, api.MaxGoal+1)}
	for _, w := range wrongGoals(t) {
		goals = append(goals, nil, w.g)
	}
	counts := map[api.Errno]int{}
	for range 8000 {
		n := nets[r.IntN(len(nets))]
		var g []api.Goal
		for range r.IntN(3) {
			g = append(g, goals[r.IntN(len(goals))])
		}
		want := check.Net(n)
		for _, x := range g {
			if want == api.OK {
				want = check.Goal(n, x)
			}
		}
		l, err := Clocks(n, any(), any(), g...)
		if counts[err]++; err != api.OK && len(l) > 0 || want != api.OK && err != want || want == api.OK && err != api.OK && err != api.ErrLoc {
			t.Fatal(l, err, want)
		}
		p, err := Plan(n, g...)
		if counts[err]++; err != want || (err == api.OK) != (len(p.Lo) > 0) || len(p.Lo) != len(p.Up) {
			t.Fatal(p, err, want)
		}
		l, err = Idle(n, api.State{Locs: some(r.IntN(4)), Vars: some(r.IntN(4))}, g...)
		if counts[err]++; err != api.OK && len(l) > 0 || want != api.OK && err != want || want == api.OK && err != api.OK && err != api.ErrState {
			t.Fatal(l, err, want)
		}
	}
	for _, err := range []api.Errno{api.OK, api.ErrLoc, api.ErrState, api.ErrRange, api.ErrConst, api.ErrLong, api.ErrTest} {
		if counts[err] < 100 {
			t.Error(err, counts)
		}
	}
}
