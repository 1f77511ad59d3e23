package replay

import (
	"fmt"
	"math"
	"slices"
	"testing"

	"gnomon/api"
	"gnomon/check"
	"gnomon/run"
)

// ran is the run that a text says, of a network.
func ran(t testing.TB, n api.Net, s string) api.Run {
	t.Helper()
	r, err, line := run.Parse(n, s)
	if err != api.OK {
		t.Fatal(s, err, line)
	}
	return r
}

// isCheck holds what Check answers to what it must answer.
func isCheck(t testing.TB, want api.Errno, step int) func(api.Errno, int) {
	return func(err api.Errno, at int) {
		t.Helper()
		if err != want || at != step {
			t.Errorf("%d %d, not %d %d", err, at, want, step)
		}
	}
}

// areAll holds what All answers to the texts of configurations.
func areAll(t testing.TB, n api.Net, want ...string) func([]Config, api.Errno, int) {
	return func(l []Config, err api.Errno, at int) {
		t.Helper()
		var texts []string
		for _, c := range l {
			texts = append(texts, textOf(n, c))
		}
		if err != api.OK || at != 0 || !slices.Equal(texts, want) {
			t.Errorf("%q %d %d, not %q", texts, err, at, want)
		}
	}
}

// isNone holds what All answers to an error and a step, and nothing beside them.
func isNone(t testing.TB, want api.Errno, step int) func([]Config, api.Errno, int) {
	return func(l []Config, err api.Errno, at int) {
		t.Helper()
		if err != want || at != step || l != nil {
			t.Errorf("%v %d %d, not %d %d", l, err, at, want, step)
		}
	}
}

// isPart holds what Meets answers to what it must answer.
func isPart(t testing.TB, want int, wantErr api.Errno) func(int, api.Errno) {
	return func(part int, err api.Errno) {
		t.Helper()
		if part != want || err != wantErr {
			t.Errorf("%d %d, not %d %d", part, err, want, wantErr)
		}
	}
}

// isLongest holds what Longest answers to a delay, and whether it may be reached.
func isLongest(t testing.TB, want string, reached bool) func(api.Rat, bool, bool) {
	return func(d api.Rat, just, some bool) {
		t.Helper()
		if d != frac(t, want) || just != reached || !some {
			t.Errorf("%s %v %v, not %s %v", number(d), just, some, want, reached)
		}
	}
}

// isEver holds what Longest answers to nothing that holds time up.
func isEver(t testing.TB) func(api.Rat, bool, bool) {
	return func(d api.Rat, just, some bool) {
		t.Helper()
		if d != (api.Rat{}) || just || some {
			t.Error(d, just, some)
		}
	}
}

// TestP21Examples: those of the chapter, and of DOC.md.
func TestP21Examples(t *testing.T) {
	n := said(t, small)
	g := aim(t, n, "A.b")
	isCheck(t, api.OK, 1)(Check(n, ran(t, n, "3 A.0\n0 end\n"), g))
	isCheck(t, api.ErrGuard, 0)(Check(n, ran(t, n, "2 A.0\n0 end\n"), g))
	isCheck(t, api.ErrInv, 0)(Check(n, ran(t, n, "6 A.0\n0 end\n"), g))
	isCheck(t, api.OK, 1)(Check(n, ran(t, n, "3 A.0\n22/3 end\n"), aim(t, n, "A.b && x > 7")))
	isCheck(t, api.ErrGoal, 1)(Check(n, ran(t, n, "3 A.0\n7 end\n"), aim(t, n, "A.b && x > 7")))
	isCheck(t, api.OK, 0)(Check(n, ran(t, n, "0 end\n"), aim(t, n, "true")))
}

// TestP21Nets: networks that are not right have their own error, ahead of all else.
func TestP21Nets(t *testing.T) {
	right := said(t, rich)
	c := at(t, right, "A.a,B.a;n=0,m=2 3 3")
	r := ran(t, right, "3 A.0 B.0\n0 end\n")
	g := aim(t, right, richGoal)
	for _, w := range wrongNets(t) {
		isErr(t, w.err)(First(w.n))
		isErr(t, w.err)(Wait(w.n, c, frac(t, "1")))
		isErr(t, w.err)(Do(w.n, c, api.Move{With: 2}))
		isPart(t, 0, w.err)(Meets(w.n, c, g))
		isCheck(t, w.err, 0)(Check(w.n, r, g))
		isNone(t, w.err, 0)(All(w.n, r))
		isLongest(t, "0", true)(Longest(w.n, c))
		// Ahead of configurations, delays, moves, goals, steps that are none.
		bad := api.Run{Steps: []api.Step{{Move: api.Move{Auto: -1}}}}
		isErr(t, w.err)(Wait(w.n, Config{}, api.Rat{}))
		isErr(t, w.err)(Do(w.n, Config{}, api.Move{Auto: 9}))
		isPart(t, 0, w.err)(Meets(w.n, Config{}, make(api.Goal, api.MaxGoal+1)))
		isCheck(t, w.err, 0)(Check(w.n, bad, make(api.Goal, api.MaxGoal+1)))
		isNone(t, w.err, 0)(All(w.n, bad))
		isLongest(t, "0", true)(Longest(w.n, Config{}))
	}
}

// TestP21Configs: configurations that are none of the network: ErrState, for each call, ahead of what else is wrong.
func TestP21Configs(t *testing.T) {
	n := said(t, rich)
	for _, c := range wrongConfigs(t) {
		isErr(t, api.ErrState)(Wait(n, c, frac(t, "0")))
		isErr(t, api.ErrState)(Wait(n, c, frac(t, "1")))
		isErr(t, api.ErrState)(Wait(n, c, api.Rat{}))
		isErr(t, api.ErrState)(Wait(n, c, frac(t, "-1")))
		isErr(t, api.ErrState)(Do(n, c, api.Move{With: 2}))
		isErr(t, api.ErrState)(Do(n, c, api.Move{Edge: 1}))
		isErr(t, api.ErrState)(Do(n, c, api.Move{Auto: 7}))
		isPart(t, 0, api.ErrState)(Meets(n, c, aim(t, n, "true")))
		isPart(t, 0, api.ErrState)(Meets(n, c, nil))
		for _, w := range wrongGoals(t) {
			isPart(t, 0, api.ErrState)(Meets(n, c, w.g))
		}
		isLongest(t, "0", true)(Longest(n, c))
	}
	// Of a network without clocks and variables.
	bare := said(t, "auto A { loc a; }")
	isErr(t, api.ErrState)(Wait(bare, Config{Clocks: []api.Rat{{Den: 1}}, State: api.State{Locs: []int{0}}}, frac(t, "1")))
	is(t, bare, "A.a;")(Wait(bare, Config{State: api.State{Locs: []int{0}}}, frac(t, "1")))
	// A configuration need not be one that a run leads to, nor keep its invariants.
	is(t, n, "A.k,B.a;n=3,m=-9 99 0")(Wait(n, at(t, n, "A.k,B.a;n=3,m=-9 99 0"), frac(t, "0")))
	isErr(t, api.ErrInv)(Wait(n, at(t, n, "A.a,B.a;n=3,m=-9 99 0"), frac(t, "0")))
	isErr(t, api.ErrGuard)(Do(n, at(t, n, "A.a,B.a;n=3,m=-9 99 0"), api.Move{With: 2}))
}

// TestP21_1First: the first state, all clocks 0; ErrInv, if that does not keep the invariants.
func TestP21_1First(t *testing.T) {
	n := said(t, rich)
	is(t, n, "A.a,B.a;n=0,m=2 0 0")(First(n))
	n = said(t, small)
	is(t, n, "A.a; 0")(First(n))
	n = said(t, "auto A { loc a committed; }")
	is(t, n, "A.a;")(First(n))
	for inv, keeps := range map[string]bool{"x <= 0": true, "x == 0": true, "x >= 0": true, "x < 1": true, "x < 0": false, "x > 0": false, "x >= 1": false, "x == 1": false, "y <= 5 && x >= 1": false, "x >= 0 && y > 0": false, "x <= 5 && y <= 5": true} {
		n := said(t, "clock x, y; auto A { loc a; loc b inv x > 0; } auto B { loc a inv "+inv+"; loc b inv x < 0; }")
		if keeps {
			is(t, n, "A.a,B.a; 0 0")(First(n))
		} else {
			isErr(t, api.ErrInv)(First(n))
			isNone(t, api.ErrInv, 0)(All(n, ran(t, n, "0 end\n")))
			isCheck(t, api.ErrInv, 0)(Check(n, ran(t, n, "0 end\n"), aim(t, n, "true")))
			isCheck(t, api.ErrInv, 0)(Check(n, api.Run{Steps: make([]api.Step, 3)}, nil))
		}
	}
}

// TestP21_1Wait: delays that are none, 0, and above it where time may pass and where it may not.
func TestP21_1Wait(t *testing.T) {
	n := said(t, rich)
	free, urgent, committed := "A.a,B.a;n=1,m=-3 1 1/2", "A.b,B.u;n=1,m=-3 1 1/2", "A.k,B.b;n=1,m=-3 1 1/2"
	is(t, n, "A.a,B.a;n=1,m=-3 5 9/2")(Wait(n, at(t, n, free), frac(t, "4")))
	is(t, n, "A.a,B.a;n=1,m=-3 4/3 5/6")(Wait(n, at(t, n, free), frac(t, "1/3")))
	for _, place := range []string{free, urgent, committed} {
		c := at(t, n, place)
		is(t, n, place)(Wait(n, c, frac(t, "0")))
		for _, d := range []string{"0/0", "1/0", "-1/0", "2/4", "2/2", "0/2", "0/-1", "1/-1", "-1/-1", "-1", "-1/3", "-2/4", "-9223372036854775808", "9223372036854775807/0"} {
			isErr(t, api.ErrDelay)(Wait(n, c, frac(t, d)))
		}
		if place == free {
			continue
		}
		for _, d := range []string{"1", "1/3", "99", "9223372036854775807", "1/9223372036854775807"} {
			isErr(t, api.ErrDelay)(Wait(n, c, frac(t, d)))
		}
	}
	// Nobody else's place counts.
	n = said(t, "clock x; auto A { loc a; loc u urgent; loc c committed; } auto B { loc a; loc u urgent; loc c committed; }")
	for place, may := range map[string]bool{"A.a,B.a;": true, "A.u,B.a;": false, "A.c,B.a;": false, "A.a,B.u;": false, "A.a,B.c;": false, "A.c,B.u;": false} {
		c := at(t, n, place+" 1/2")
		if may {
			is(t, n, place+" 1")(Wait(n, c, frac(t, "1/2")))
		} else {
			isErr(t, api.ErrDelay)(Wait(n, c, frac(t, "1/2")))
		}
		is(t, n, place+" 1/2")(Wait(n, c, frac(t, "0")))
	}
}

// TestP21_1Over: clocks that cannot be held behind a delay.
func TestP21_1Over(t *testing.T) {
	n := said(t, "clock x, y; auto A { loc a; loc b inv x <= 5; loc u urgent; }")
	for _, w := range []struct{ clocks, delay, want string }{
		{"9223372036854775806 0", "1", "9223372036854775807 1"},
		{"9223372036854775807 0", "1", ""},
		{"0 9223372036854775807", "1/2", ""},
		{"0 1", "9223372036854775807", ""},
		{"0 0", "9223372036854775807", "9223372036854775807 9223372036854775807"},
		{"1/9223372036854775807 0", "1/2", ""},
		{"0 1/9223372036854775807", "1/2", ""},
		{"1/9223372036854775807 0", "9223372036854775806/9223372036854775807", "1 9223372036854775806/9223372036854775807"},
		{"1/4294967296 0", "1/4294967297", ""},
		{"9223372036854775807 1/9223372036854775807", "0", "9223372036854775807 1/9223372036854775807"},
	} {
		c := at(t, n, "A.a; "+w.clocks)
		if w.want == "" {
			isErr(t, api.ErrOver)(Wait(n, c, frac(t, w.delay)))
			// Ahead of the invariants, which do not hold there either; behind the delay, which may not be.
			c.Clocks[0] = frac(t, "9223372036854775807")
			c.State.Locs[0] = 1
			isErr(t, api.ErrOver)(Wait(n, c, frac(t, w.delay)))
			c.State.Locs[0] = 2
			isErr(t, api.ErrDelay)(Wait(n, c, frac(t, w.delay)))
		} else {
			is(t, n, "A.a; "+w.want)(Wait(n, c, frac(t, w.delay)))
		}
	}
	// Without clocks nothing is reckoned.
	n = said(t, "auto A { loc a; }")
	is(t, n, "A.a;")(Wait(n, at(t, n, "A.a;"), frac(t, "9223372036854775807")))
}

// TestP21_1WaitInv: invariants that hold ahead of a delay and not behind it, that do not hold now, and a delay of 0 there.
func TestP21_1WaitInv(t *testing.T) {
	for _, w := range []struct {
		inv, clocks, delay string
		keeps              bool
	}{
		{"x <= 5", "3 0", "2", true}, {"x <= 5", "3 0", "7/3", false}, {"x <= 5", "5 0", "0", true}, {"x <= 5", "5 0", "1/9", false},
		{"x < 5", "3 0", "2", false}, {"x < 5", "3 0", "5/3", true}, {"x == 5", "5 0", "0", true}, {"x == 5", "5 0", "1/2", false},
		// Not now: of 0 too; what holds behind the delay is asked, not what holds now.
		{"x <= 5", "6 0", "0", false}, {"x <= 5", "6 0", "1", false}, {"x >= 3", "0 0", "0", false}, {"x >= 3", "0 0", "2", false},
		{"x >= 3", "0 0", "3", true}, {"x > 3", "0 0", "3", false}, {"x > 3", "0 0", "10/3", true}, {"x == 3", "0 0", "3", true}, {"x == 3", "0 0", "2", false},
		{"x >= 3 && y <= 2", "2 1", "1", true}, {"x >= 3 && y <= 2", "2 2", "1", false}, {"x >= 3 && y < 2", "2 1", "1", false},
		{"x <= 9 && y <= 2", "2 2", "1", false}, {"y <= 2 && x <= 9", "2 2", "1", false}, {"x <= 5 && x <= 4", "3 0", "2", false},
	} {
		for _, text := range []string{"clock x, y; auto A { loc a inv %s; loc b; }", "clock x, y; auto B { loc b; } auto A { loc a inv %s; }"} {
			n := said(t, fmt.Sprintf(text, w.inv))
			c := Config{api.State{Locs: make([]int, len(n.Autos))}, at(t, said(t, "clock x, y; auto A { loc a; }"), "A.a; "+w.clocks).Clocks}
			next, err := Wait(n, c, frac(t, w.delay))
			if !w.keeps {
				isErr(t, api.ErrInv)(next, err)
			} else if err != api.OK {
				t.Error(w, err)
			}
		}
	}
	// In a place where no time may pass the delay is asked first.
	n := said(t, "clock x; auto A { loc u urgent inv x <= 5; }")
	isErr(t, api.ErrInv)(Wait(n, at(t, n, "A.u; 6"), frac(t, "0")))
	isErr(t, api.ErrDelay)(Wait(n, at(t, n, "A.u; 6"), frac(t, "1")))
	isErr(t, api.ErrDelay)(Wait(n, at(t, n, "A.u; 5"), frac(t, "1")))
}

// TestP21_1Do: what is done: first the sender's sets, then the other's; who does not move stays.
func TestP21_1Do(t *testing.T) {
	n := said(t, rich)
	is(t, n, "A.b,B.u;n=1,m=4 3 2")(Do(n, at(t, n, "A.a,B.a;n=0,m=2 3 7/2"), api.Move{With: 2}))
	is(t, n, "A.k,B.a;n=0,m=-2 7 9")(Do(n, at(t, n, "A.a,B.a;n=0,m=2 4/3 9"), api.Move{Edge: 1}))
	is(t, n, "A.a,B.u;n=3,m=9 5 0")(Do(n, at(t, n, "A.k,B.u;n=3,m=9 5 6"), api.Move{Edge: 2}))
	is(t, n, "A.b,B.b;n=0,m=0 2 1/3")(Do(n, at(t, n, "A.b,B.u;n=0,m=0 2 1/3"), api.Move{Auto: 1, Edge: 1}))
	is(t, n, "A.a,B.a;n=0,m=0 2 1")(Do(n, at(t, n, "A.b,B.b;n=0,m=0 2 4"), api.Move{Edge: 3, With: 2, Take: 2}))
	// Sets see what those ahead of them have set; a clock is what it was set to last.
	n = said(t, "clock x, y; int k in 0 .. 9 := 1; chan c; auto B { loc a; loc b; edge a -> b sync c? do k := k + 3, x := 4, y := 6; } auto A { loc a; loc b; edge a -> b sync c! do k := k * 2, k := k + 1, x := 2, x := 1; }")
	is(t, n, "B.b,A.b;k=8 4 6")(Do(n, at(t, n, "B.a,A.a;k=2 1/2 0"), api.Move{Auto: 1, With: 1}))
	// A move of an edge that leads back to where it began; guards are asked of the clocks ahead of the sets.
	n = said(t, "clock x; auto A { loc a inv x <= 5; edge a -> a when x == 5 do x := 0; edge a -> a when x == 0 do x := 5; edge a -> a; }")
	is(t, n, "A.a; 0")(Do(n, at(t, n, "A.a; 5"), api.Move{}))
	isErr(t, api.ErrGuard)(Do(n, at(t, n, "A.a; 5"), api.Move{Edge: 1}))
	is(t, n, "A.a; 7/2")(Do(n, at(t, n, "A.a; 7/2"), api.Move{Edge: 2}))
	// What may not be held is not asked for: nothing is reckoned with clocks.
	n = said(t, "clock x, y; auto A { loc a; edge a -> a when x > 5 do y := 1048576; }")
	is(t, n, "A.a; 9223372036854775807 1048576")(Do(n, at(t, n, "A.a; 9223372036854775807 1/9223372036854775807"), api.Move{}))
	isErr(t, api.ErrGuard)(Do(n, at(t, n, "A.a; 1/9223372036854775807 0"), api.Move{}))
}

// TestP21_1DoMove: ErrMove, ahead of guards, tests and sets.
func TestP21_1DoMove(t *testing.T) {
	n := said(t, rich)
	good := "A.a,B.a;n=0,m=2 3 3"
	is(t, n, "A.b,B.u;n=1,m=4 3 2")(Do(n, at(t, n, good), api.Move{With: 2}))
	for _, m := range []api.Move{
		// No such edges.
		{Auto: -1}, {Auto: 2}, {Edge: -1}, {Edge: 4}, {With: -1}, {With: 3}, {With: 2, Take: -1}, {With: 2, Take: 3}, {Auto: 2, With: 2}, {Edge: 4, With: 2}, {Edge: 1, Take: 1},
		{Auto: math.MinInt}, {Edge: math.MaxInt}, {With: math.MinInt}, {With: math.MaxInt}, {With: 2, Take: math.MinInt},
		// Their From is not where the automata are.
		{Edge: 2}, {Auto: 1, Edge: 1}, {Edge: 3, With: 2, Take: 2},
		// Their channels do not fit: none for two, one for one, unlike ones, two that take, with itself, the other way round.
		{}, {Edge: 3}, {Auto: 1}, {Auto: 1, Edge: 2}, {Edge: 1, With: 2}, {Edge: 1, With: 2, Take: 1}, {With: 2, Take: 1}, {With: 2, Take: 2}, {Edge: 3, With: 2}, {With: 1}, {With: 1, Take: 3}, {Auto: 1, With: 1}, {Auto: 1, With: 2},
	} {
		isErr(t, api.ErrMove)(Do(n, at(t, n, good), m))
		// Nothing else would hold either.
		isErr(t, api.ErrMove)(Do(n, at(t, n, "A.a,B.a;n=3,m=0 9 9"), m))
	}
	// Just one of both is elsewhere.
	for _, place := range []string{"A.b,B.a;n=0,m=2 3 3", "A.a,B.u;n=0,m=2 3 3", "A.a,B.b;n=0,m=2 3 3", "A.k,B.a;n=0,m=2 3 3"} {
		isErr(t, api.ErrMove)(Do(n, at(t, n, place), api.Move{With: 2}))
	}
}

// TestP21_1Committed: somebody else is in a Committed location, and neither of them.
func TestP21_1Committed(t *testing.T) {
	auto := " { loc a; loc c committed; loc u urgent; edge a -> a; edge c -> a; edge u -> a; edge a -> a sync h!; edge c -> c sync h!; edge a -> a sync h?; edge c -> a sync h?; edge a -> a when x > 9; edge a -> a when 1 == 0; }"
	n := said(t, "clock x; chan h; auto A"+auto+" auto B"+auto+" auto C"+auto)
	for _, w := range []struct {
		place string
		m     api.Move
		want  string
	}{
		{"A.a,B.a,C.a;", api.Move{}, "A.a,B.a,C.a;"},
		{"A.a,B.c,C.a;", api.Move{}, ""},
		{"A.a,B.a,C.c;", api.Move{}, ""},
		{"A.c,B.c,C.c;", api.Move{Edge: 1}, "A.a,B.c,C.c;"},
		{"A.c,B.a,C.a;", api.Move{Edge: 1}, "A.a,B.a,C.a;"},
		{"A.u,B.c,C.a;", api.Move{Edge: 2}, ""},
		{"A.u,B.u,C.a;", api.Move{Edge: 2}, "A.a,B.u,C.a;"},
		{"A.a,B.u,C.a;", api.Move{}, "A.a,B.u,C.a;"},
		{"A.a,B.a,C.a;", api.Move{Edge: 3, With: 2, Take: 5}, "A.a,B.a,C.a;"},
		{"A.a,B.a,C.c;", api.Move{Edge: 3, With: 2, Take: 5}, ""},
		{"A.c,B.a,C.c;", api.Move{Edge: 4, With: 2, Take: 5}, "A.c,B.a,C.c;"},
		{"A.a,B.c,C.c;", api.Move{Edge: 3, With: 2, Take: 6}, "A.a,B.a,C.c;"},
		{"A.c,B.c,C.c;", api.Move{Auto: 2, Edge: 4, With: 1, Take: 6}, "A.a,B.c,C.c;"},
		{"A.a,B.c,C.a;", api.Move{Edge: 3, With: 3, Take: 5}, ""},
		// Ahead of guards and tests.
		{"A.a,B.c,C.a;", api.Move{Edge: 7}, ""},
		{"A.a,B.c,C.a;", api.Move{Edge: 8}, ""},
	} {
		if w.want == "" {
			isErr(t, api.ErrMove)(Do(n, at(t, n, w.place+" 1/2"), w.m))
		} else {
			is(t, n, w.want+" 1/2")(Do(n, at(t, n, w.place+" 1/2"), w.m))
		}
	}
}

// TestP21_1DoGuard: ErrGuard: guards, tests, tests without a value, sets outside a variable's bounds; of the sender and of the other; behind ErrMove, ahead of ErrInv.
func TestP21_1DoGuard(t *testing.T) {
	n := said(t, rich)
	for _, place := range []string{
		"A.a,B.a;n=0,m=2 2 3",   // The sender's guard.
		"A.a,B.a;n=0,m=2 8/3 3", // Nearly.
		"A.a,B.a;n=0,m=2 3 4",   // The other's.
		"A.a,B.a;n=3,m=2 3 3",   // The sender's test.
		"A.a,B.a;n=0,m=0 3 3",   // The other's.
		"A.a,B.a;n=0,m=5 3 3",   // The other's set: 10.
		"A.a,B.a;n=3,m=-9 0 9",  // All of it.
	} {
		isErr(t, api.ErrGuard)(Do(n, at(t, n, place), api.Move{With: 2}))
	}
	// Guards of each kind.
	for guard, clocks := range map[string]map[string]bool{
		"x < 3":           {"5/2 0": true, "3 0": false, "4 0": false},
		"x <= 3":          {"5/2 0": true, "3 0": true, "10/3 0": false},
		"x == 3":          {"5/2 0": false, "3 0": true, "10/3 0": false},
		"x >= 3":          {"5/2 0": false, "3 0": true, "4 0": true},
		"x > 3":           {"2 0": false, "3 0": false, "10/3 0": true},
		"x > 3 && y <= 1": {"4 0": true, "4 1": true, "4 3/2": false, "3 0": false},
	} {
		n := said(t, "clock x, y; auto A { loc a; loc b inv x < 0; edge a -> a when "+guard+"; edge a -> b when "+guard+"; }")
		for values, holds := range clocks {
			c := at(t, n, "A.a; "+values)
			if holds {
				is(t, n, "A.a; "+values)(Do(n, c, api.Move{}))
				isErr(t, api.ErrInv)(Do(n, c, api.Move{Edge: 1}))
			} else {
				isErr(t, api.ErrGuard)(Do(n, c, api.Move{}))
				isErr(t, api.ErrGuard)(Do(n, c, api.Move{Edge: 1}))
			}
		}
	}
	// Tests and sets, with values that are too great to be held, too.
	for edge, holds := range map[string]bool{
		"when k < 3": false, "when k > 3": true, "when k > 3 && l == 0": true, "when k > 3 && l == 1": false,
		"when k * k * k * k > 0": false, "when (k * k * k * k > 0 || true)": false, "when (true || k * k * k * k > 0)": true, "when !(l == 0 && k * k * k * k > 0)": false, "when !(l == 1 && k * k * k * k > 0)": true,
		"do k := k + 1": false, "do k := k": true, "do k := 0 - 1": false, "do k := 0 - 1, k := 0": false, "do k := k * k * k * k": false, "do l := 1": true, "do l := 1 - l": true, "do l := 1, l := l + 1": false, "do l := 0 - 1": false, "do x := 5, l := 2": false, "do k := k - 1, k := k + 1": true,
	} {
		n := said(t, "clock x; int k in 0 .. 1048576 := 1048576; int l in 0 .. 1 := 0; auto A { loc a; loc b inv x < 0; edge a -> a "+edge+"; edge a -> b "+edge+"; }")
		c, _ := First(n)
		next, err := Do(n, c, api.Move{})
		if !holds {
			isErr(t, api.ErrGuard)(next, err)
			isErr(t, api.ErrGuard)(Do(n, c, api.Move{Edge: 1}))
		} else {
			isErr(t, api.OK)(Config{}, err)
			isErr(t, api.ErrInv)(Do(n, c, api.Move{Edge: 1}))
		}
	}
}

// TestP21_1DoInv: invariants of the state behind the move, of all automata, of the clocks that the sets leave.
func TestP21_1DoInv(t *testing.T) {
	n := said(t, rich)
	isErr(t, api.ErrInv)(Do(n, at(t, n, "A.k,B.a;n=0,m=2 7 0"), api.Move{Edge: 2}))
	is(t, n, "A.a,B.a;n=0,m=2 5 0")(Do(n, at(t, n, "A.k,B.a;n=0,m=2 5 9"), api.Move{Edge: 2}))
	// Of one who does not move.
	isErr(t, api.ErrInv)(Do(n, at(t, n, "A.k,B.b;n=0,m=2 5 9").with(t, "10 0"), api.Move{Edge: 2}))
	isErr(t, api.ErrInv)(Do(n, at(t, n, "A.b,B.u;n=0,m=2 5 7"), api.Move{Auto: 1, Edge: 1}))
	n = said(t, "clock x, y; auto A { loc a inv x <= 3; loc b inv x > 0 && y == 2; edge a -> b do x := 1, y := 2; edge a -> b do y := 2; edge a -> b do x := 1, y := 2, x := 0; edge a -> a; } auto B { loc a inv y <= 4; }")
	is(t, n, "A.b,B.a; 1 2")(Do(n, at(t, n, "A.a,B.a; 0 0"), api.Move{}))
	isErr(t, api.ErrInv)(Do(n, at(t, n, "A.a,B.a; 0 0"), api.Move{Edge: 1}))
	is(t, n, "A.b,B.a; 1/2 2")(Do(n, at(t, n, "A.a,B.a; 1/2 0"), api.Move{Edge: 1}))
	isErr(t, api.ErrInv)(Do(n, at(t, n, "A.a,B.a; 1 0"), api.Move{Edge: 2}))
	// What holds now is not asked: just what holds behind it.
	is(t, n, "A.b,B.a; 1 2")(Do(n, at(t, n, "A.a,B.a; 9 9"), api.Move{}))
	isErr(t, api.ErrInv)(Do(n, at(t, n, "A.a,B.a; 9 0"), api.Move{Edge: 3}))
	isErr(t, api.ErrInv)(Do(n, at(t, n, "A.a,B.a; 0 9"), api.Move{Edge: 3}))
}

// with is a configuration with other clocks.
func (c Config) with(t testing.TB, clocks string) Config {
	return Config{c.State, at(t, said(t, "auto A { loc a; }"), "A.a; "+clocks).Clocks}
}

// TestP21_2Meets: the first part that holds; -1 without.
func TestP21_2Meets(t *testing.T) {
	n := said(t, rich)
	for _, w := range wrongGoals(t) {
		isPart(t, 0, w.err)(Meets(n, at(t, n, "A.a,B.a;n=0,m=2 3 3"), w.g))
	}
	for _, w := range []struct {
		place, goal string
		part        int
	}{
		{"A.a,B.a;n=0,m=2 3 3", "", -1},
		{"A.a,B.a;n=0,m=2 3 3", "true", 0},
		{"A.a,B.a;n=0,m=2 3 3", "A.a", 0}, {"A.a,B.a;n=0,m=2 3 3", "A.b", -1}, {"A.a,B.u;n=0,m=2 3 3", "A.a && B.a", -1}, {"A.a,B.u;n=0,m=2 3 3", "A.a && B.u", 0}, {"A.b,B.u;n=0,m=2 3 3", "B.u && A.a", -1},
		{"A.a,B.a;n=0,m=2 3 3", "A.a && A.b", -1},
		{"A.a,B.a;n=0,m=2 3 4", "x < 3", -1}, {"A.a,B.a;n=0,m=2 3 4", "x <= 3", 0}, {"A.a,B.a;n=0,m=2 3 4", "x == 3", 0}, {"A.a,B.a;n=0,m=2 3 4", "x >= 3", 0}, {"A.a,B.a;n=0,m=2 3 4", "x > 3", -1},
		{"A.a,B.a;n=0,m=2 5/2 4", "x < 3", 0}, {"A.a,B.a;n=0,m=2 5/2 4", "x == 3", -1}, {"A.a,B.a;n=0,m=2 7/2 4", "x > 3 && y > 4", -1}, {"A.a,B.a;n=0,m=2 7/2 4", "x > 3 && y >= 4", 0},
		{"A.a,B.a;n=2,m=2 3 4", "n == 2", 0}, {"A.a,B.a;n=2,m=2 3 4", "n == 2 && m > 2", -1}, {"A.a,B.a;n=2,m=3 3 4", "A.a && x > 2 && n == 2 && m > 2", 0},
		{"A.a,B.a;n=2,m=3 3 4", "A.b && x > 2 && n == 2", -1}, {"A.a,B.a;n=2,m=3 3 4", "A.a && x > 3 && n == 2", -1}, {"A.a,B.a;n=2,m=3 3 4", "A.a && x > 2 && n == 1", -1},
		// Several parts.
		{"A.a,B.a;n=2,m=3 3 4", "A.b || n == 2 || true", 1}, {"A.a,B.a;n=2,m=3 3 4", "A.a || n == 2 || true", 0}, {"A.a,B.a;n=2,m=3 3 4", "A.b || n == 1 || true", 2}, {"A.a,B.a;n=2,m=3 3 4", "A.b || n == 1 || x < 3", -1},
		// Of places that no run leads to, and that do not keep their invariants.
		{"A.k,B.u;n=3,m=-9 99 99", "A.a || A.k && x > 98 && m < 0", 1},
	} {
		isPart(t, w.part, api.OK)(Meets(n, at(t, n, w.place), aim(t, n, w.goal)))
	}
	// A test without a value does not hold, and keeps no other part from holding.
	n = said(t, "int k in 0 .. 1048576 := 1048576; auto A { loc a; }")
	for goal, part := range map[string]int{"k * k * k * k > 0": -1, "k * k * k * k > 0 || k > 1": 1, "(k > 1 || k * k * k * k > 0)": 0, "k < 1 || k * k * k * k < 0 || true": 2} {
		isPart(t, part, api.OK)(Meets(n, at(t, n, "A.a;k=1048576"), aim(t, n, goal)))
	}
	// Clocks that are too great for sums are held against numbers all the same.
	n = said(t, "clock x; auto A { loc a; }")
	isPart(t, 1, api.OK)(Meets(n, at(t, n, "A.a; 9223372036854775807"), aim(t, n, "x <= 1048576 || x > 1048576")))
	isPart(t, 1, api.OK)(Meets(n, at(t, n, "A.a; 1/9223372036854775807"), aim(t, n, "x <= 0 || x > 0 && x < 1")))
}

// loop has a place where time may pass and one where it may not, round and round.
const loop = "clock x, y; int k in 0 .. 2 := 0; auto A { loc a inv x <= 5; loc u urgent; edge a -> u when x >= 3 do x := 0, k := k + 1; edge u -> a; edge u -> a when y > 99; }"

const loopRun = "3 A.0\n0 A.1\n9/2 A.0\n0 A.1\n2 end\n"

// TestP21_2All: configuration by configuration.
func TestP21_2All(t *testing.T) {
	n := said(t, loop)
	areAll(t, n, "A.a;k=0 0 0", "A.a;k=0 3 3", "A.u;k=1 0 3", "A.u;k=1 0 3", "A.a;k=1 0 3", "A.a;k=1 9/2 15/2", "A.u;k=2 0 15/2", "A.u;k=2 0 15/2", "A.a;k=2 0 15/2", "A.a;k=2 2 19/2")(All(n, ran(t, n, loopRun)))
	areAll(t, n, "A.a;k=0 0 0", "A.a;k=0 0 0")(All(n, ran(t, n, "0 end\n")))
	areAll(t, n, "A.a;k=0 0 0", "A.a;k=0 5 5")(All(n, ran(t, n, "5 end\n")))
	isNone(t, api.ErrInv, 0)(All(n, ran(t, n, "11/2 end\n")))
	isNone(t, api.ErrDelay, 0)(All(n, api.Run{}))
	n = said(t, rich)
	areAll(t, n, "A.a,B.a;n=0,m=2 0 0", "A.a,B.a;n=0,m=2 10/3 10/3", "A.b,B.u;n=1,m=4 3 2", "A.b,B.u;n=1,m=4 3 2", "A.b,B.b;n=1,m=4 3 2", "A.b,B.b;n=1,m=4 5 4", "A.a,B.a;n=1,m=4 5 1", "A.a,B.a;n=1,m=4 5 1")(All(n, ran(t, n, "10/3 A.0 B.0\n0 B.1\n2 A.3 B.2\n0 end\n")))
}

// TestP21_2Fail: runs that fail at each step, by the delay and by the move, at the last delay and at the goal.
func TestP21_2Fail(t *testing.T) {
	n := said(t, loop)
	good := ran(t, n, loopRun)
	goal := aim(t, n, "A.a && k == 2 && x == 2")
	isCheck(t, api.OK, 4)(Check(n, good, goal))
	isCheck(t, api.OK, 4)(Check(n, good, aim(t, n, "A.u || y > 9")))
	for _, g := range []string{"", "A.u", "x < 2 || x > 2", "A.a && k == 2 && y > 10"} {
		isCheck(t, api.ErrGoal, 4)(Check(n, good, aim(t, n, g)))
	}
	// Goals are asked first, whatever the run.
	for _, w := range wrongGoals(t) {
		isCheck(t, w.err, 0)(Check(w.n, ran(t, w.n, "0 end\n"), w.g))
		isCheck(t, w.err, 0)(Check(w.n, api.Run{Steps: make([]api.Step, 2)}, w.g))
	}
	fails := func(r api.Run, err api.Errno, step int) {
		t.Helper()
		for _, g := range []string{"A.a && k == 2 && x == 2", "true", ""} {
			isCheck(t, err, step)(Check(n, r, aim(t, n, g)))
		}
		isNone(t, err, step)(All(n, r))
	}
	changed := func(i int, change func(s *api.Step)) api.Run {
		r := run.Cut(good, 9)
		change(&r.Steps[i])
		return r
	}
	for i := range good.Steps {
		for _, d := range []api.Rat{{}, {Num: 2, Den: 4}, {Num: -1, Den: 1}} {
			// Ahead of the move, whatever that is.
			fails(changed(i, func(s *api.Step) { s.Delay = d }), api.ErrDelay, i)
			fails(changed(i, func(s *api.Step) { *s = api.Step{Delay: d, Move: api.Move{Auto: 9}} }), api.ErrDelay, i)
		}
		for _, m := range []api.Move{{Auto: 1}, {Edge: 3}, {Edge: 1 - i%2}, {Edge: i % 2, With: 1}, {Edge: i % 2, Take: 1}} {
			fails(changed(i, func(s *api.Step) { s.Move = m }), api.ErrMove, i)
		}
		if i%2 == 0 {
			fails(changed(i, func(s *api.Step) { s.Delay = frac(t, "6") }), api.ErrInv, i)
			fails(changed(i, func(s *api.Step) { s.Delay = frac(t, "2") }), api.ErrGuard, i)
			fails(changed(i, func(s *api.Step) { *s = api.Step{Delay: frac(t, "6"), Move: api.Move{Auto: 9}} }), api.ErrInv, i)
		} else {
			fails(changed(i, func(s *api.Step) { s.Delay = frac(t, "1") }), api.ErrDelay, i)
			fails(changed(i, func(s *api.Step) { s.Move.Edge = 2 }), api.ErrGuard, i)
		}
		// The first fault counts, not those behind it.
		r := changed(i, func(s *api.Step) { s.Move.Auto = 1 })
		for j := i + 1; j < len(r.Steps); j++ {
			r.Steps[j] = api.Step{}
		}
		r.Last = api.Rat{}
		fails(r, api.ErrMove, i)
	}
	// At the last delay.
	for d, err := range map[string]api.Errno{"6": api.ErrInv, "0/0": api.ErrDelay, "-1": api.ErrDelay, "2/2": api.ErrDelay, "9223372036854775807": api.ErrOver} {
		r := run.Cut(good, 9)
		r.Last = frac(t, d)
		fails(r, err, 4)
		r.Steps = nil
		if err != api.ErrOver {
			fails(r, err, 0)
		}
	}
	// At the set of a variable, in the third round.
	fails(ran(t, n, "3 A.0\n0 A.1\n9/2 A.0\n0 A.1\n3 A.0\n0 end\n"), api.ErrGuard, 4)
	// At an invariant behind a move.
	n = said(t, "clock x; auto A { loc a; loc b inv x <= 5; edge a -> b; edge b -> a; }")
	isNone(t, api.ErrInv, 2)(All(n, ran(t, n, "1 A.0\n2 A.1\n3 A.0\n0 end\n")))
	isCheck(t, api.ErrInv, 2)(Check(n, ran(t, n, "1 A.0\n2 A.1\n3 A.0\n0 end\n"), aim(t, n, "true")))
}

// TestP21_2None: runs without steps.
func TestP21_2None(t *testing.T) {
	n := said(t, small)
	for _, steps := range [][]api.Step{nil, {}} {
		for goal, want := range map[string]api.Errno{"A.a": api.OK, "x >= 4": api.OK, "x < 4": api.ErrGoal, "A.b": api.ErrGoal, "": api.ErrGoal, "true": api.OK} {
			isCheck(t, want, 0)(Check(n, api.Run{Steps: steps, Last: frac(t, "4")}, aim(t, n, goal)))
		}
	}
}

// TestP21_2Long: more steps than a search has nodes are no fault here.
func TestP21_2Long(t *testing.T) {
	n := said(t, "clock x; auto A { loc a inv x <= 1; edge a -> a when x == 1 do x := 0; }")
	many := api.MaxZones + 3
	r := api.Run{Steps: slices.Repeat([]api.Step{{Delay: frac(t, "1")}}, many), Last: frac(t, "1/2")}
	isCheck(t, api.OK, many)(Check(n, r, aim(t, n, "x < 1")))
	isCheck(t, api.ErrGoal, many)(Check(n, r, aim(t, n, "x >= 1")))
	l, err, step := All(n, r)
	if len(l) != 2*many+2 || err != api.OK || step != 0 || textOf(n, l[2*many-1]) != "A.a; 1" || textOf(n, l[2*many+1]) != "A.a; 1/2" {
		t.Error(len(l), err, step)
	}
	r.Steps[many-1].Delay = frac(t, "1/2")
	isCheck(t, api.ErrGuard, many-1)(Check(n, r, nil))
	isNone(t, api.ErrGuard, many-1)(All(n, r))
}

// TestP21_3Longest: by how much time may pass at most.
func TestP21_3Longest(t *testing.T) {
	for _, w := range []struct {
		inv, clocks, want string
		just              bool
	}{
		{"x <= 5", "0 0", "5", true}, {"x <= 5", "7/3 0", "8/3", true}, {"x <= 5", "5 0", "0", true},
		{"x < 5", "0 0", "5", false}, {"x < 5", "7/3 0", "8/3", false}, {"x < 5", "14/3 9", "1/3", false},
		{"x == 5", "5 0", "0", true}, {"x == 0", "0 0", "0", true},
		// Both at one number, in each order; of one clock and of two.
		{"x <= 5 && x < 5", "1 0", "4", false}, {"x < 5 && x <= 5", "1 0", "4", false}, {"x <= 5 && y < 7", "1 3", "4", false}, {"y < 7 && x <= 5", "1 3", "4", false}, {"x <= 5 && y <= 7", "1 3", "4", true}, {"x < 5 && y < 7", "1 3", "4", false}, {"x < 5 && y <= 7 && x <= 5", "1 3", "4", false},
		// The least of several.
		{"x <= 5 && y < 7", "1 2", "4", true}, {"x <= 5 && y < 7", "1 4", "3", false}, {"x <= 5 && x <= 4", "1 0", "3", true}, {"x < 9 && x <= 4 && y <= 99", "1 0", "3", true}, {"x <= 9 && x < 4", "1 0", "3", false}, {"x == 5 && y < 7", "5 1", "0", true}, {"x < 7 && y == 5", "1 5", "0", true},
		// Ge and Gt beside them.
		{"x >= 1 && x <= 5", "1 0", "4", true}, {"x > 1 && y < 5", "2 1/2", "9/2", false},
		// Not now: 0, and it may be reached.
		{"x <= 5", "6 0", "0", true}, {"x < 5", "5 0", "0", true}, {"x < 5", "6 0", "0", true}, {"x == 5", "4 0", "0", true}, {"x == 5", "6 0", "0", true}, {"x >= 5", "4 0", "0", true}, {"x > 5", "5 0", "0", true}, {"x > 5 && y < 9", "5 0", "0", true}, {"y < 9 && x < 5", "7 0", "0", true},
		// Numbers that cannot be held play no part.
		{"x <= 2 && y <= 5", "1/9223372036854775807 0", "5", true}, {"y < 5 && x <= 2", "1/9223372036854775807 0", "5", false}, {"x <= 1", "1/9223372036854775807 0", "9223372036854775806/9223372036854775807", true}, {"x < 1", "9223372036854775806/9223372036854775807 0", "1/9223372036854775807", false},
		{"x <= 5", "9223372036854775807 0", "0", true}, {"x > 5 && y <= 5", "9223372036854775807 0", "5", true},
		{"x <= 1048576", "0 0", "1048576", true}, {"x < 1048576 && y < 1048576", "1/2 1/3", "2097151/2", false},
	} {
		for _, text := range []string{"clock x, y; auto A { loc a inv %s; loc b inv x < 1; }", "clock x, y; auto B { loc b; loc c urgent; } auto A { loc a inv %s; }", "clock x, y; auto A { loc a inv %s; } auto B { loc b inv x >= 0; }"} {
			n := said(t, fmt.Sprintf(text, w.inv))
			c := Config{State: api.State{Locs: make([]int, len(n.Autos))}}.with(t, w.clocks)
			isLongest(t, w.want, w.just)(Longest(n, c))
		}
	}
	// The invariants of all automata.
	n := said(t, "clock x, y; auto A { loc a inv x <= 5; } auto B { loc a inv y < 7; }")
	isLongest(t, "5", true)(Longest(n, at(t, n, "A.a,B.a; 0 0")))
	isLongest(t, "4", false)(Longest(n, at(t, n, "A.a,B.a; 0 3")))
	isLongest(t, "5", false)(Longest(n, at(t, n, "A.a,B.a; 0 2")))
}

// TestP21_3Ever: nothing holds time up.
func TestP21_3Ever(t *testing.T) {
	for _, w := range []struct{ inv, clocks string }{
		{"", "0 0"}, {"", "9223372036854775807 1/9223372036854775807"}, {"inv x >= 0", "0 0"}, {"inv x >= 3 && y > 2", "3 3"}, {"inv x > 3", "9223372036854775807 0"},
		// Less its clock the number cannot be held: it plays no part.
		{"inv x <= 2", "1/9223372036854775807 0"}, {"inv x < 1048576 && y >= 0", "1/9223372036854775807 0"}, {"inv x <= 3 && y < 4", "1/9223372036854775807 1/9223372036854775806"},
	} {
		n := said(t, "clock x, y; auto A { loc a "+w.inv+"; loc b inv x <= 5; } auto B { loc a; loc u urgent; }")
		isEver(t)(Longest(n, at(t, n, "A.a,B.a; "+w.clocks)))
	}
	n := said(t, "auto A { loc a; }")
	isEver(t)(Longest(n, at(t, n, "A.a;")))
}

// TestP21_3Held: places where no time may pass: 0, and it may be reached.
func TestP21_3Held(t *testing.T) {
	n := said(t, "clock x; auto A { loc a inv x <= 5; loc u urgent; loc c committed; loc v urgent inv x <= 5; loc w urgent inv x < 5; loc d committed inv x >= 0; } auto B { loc a; loc u urgent; loc c committed; }")
	for _, place := range []string{"A.u,B.a;", "A.c,B.a;", "A.v,B.a;", "A.w,B.a;", "A.d,B.a;", "A.a,B.u;", "A.a,B.c;", "A.u,B.c;"} {
		for _, x := range []string{" 0", " 1/2", " 5", " 99"} {
			isLongest(t, "0", true)(Longest(n, at(t, n, place+x)))
		}
	}
	n = said(t, "auto A { loc u urgent; }")
	isLongest(t, "0", true)(Longest(n, at(t, n, "A.u;")))
}

// spare is a configuration whose lists have room behind their end, with something in it.
func spare(c Config) Config {
	return Config{api.State{Locs: append(slices.Clone(c.State.Locs), 7, 7)[:len(c.State.Locs)], Vars: append(slices.Clone(c.State.Vars), 7, 7)[:len(c.State.Vars)]}, append(slices.Clone(c.Clocks), api.Rat{Num: 7}, api.Rat{Num: 7})[:len(c.Clocks)]}
}

// whole is all of a configuration, with what stands in its spare room.
func whole(c Config) string {
	return fmt.Sprint(c.State.Locs[:cap(c.State.Locs)], c.State.Vars[:cap(c.State.Vars)], c.Clocks[:cap(c.Clocks)])
}

// TestP3Lists: what is handed in stays as it is, spare room too; what is answered is the caller's.
func TestP3Lists(t *testing.T) {
	n := said(t, rich)
	c := spare(at(t, n, "A.a,B.a;n=0,m=2 3 3"))
	r := ran(t, n, "10/3 A.0 B.0\n0 B.1\n2 A.3 B.2\n0 end\n")
	g := aim(t, n, richGoal)
	before := fmt.Sprint(n, r, g) + whole(c)
	var answers []any
	for range 2 {
		first, _ := First(n)
		later, _ := Wait(n, c, frac(t, "1"))
		now, _ := Wait(n, c, frac(t, "0"))
		both, _ := Do(n, c, api.Move{With: 2})
		one, _ := Do(n, c, api.Move{Edge: 1})
		all, _, _ := All(n, r)
		Meets(n, c, g)
		Check(n, r, g)
		Longest(n, c)
		// Errors, too, behind something was done.
		Wait(n, c, frac(t, "99"))
		Do(n, at(t, n, "A.k,B.a;n=0,m=2 7 0"), api.Move{Edge: 2})
		answers = append(answers, first, later, now, both, one, all)
		for _, x := range all {
			if len(x.Clocks) != 2 || len(x.State.Locs) != 2 || len(x.State.Vars) != 2 {
				t.Error(x)
			}
		}
	}
	if shared(append(answers, n, c, r, g)...) {
		t.Error("shared")
	}
	for _, a := range answers {
		l, some := a.([]Config)
		if !some {
			l = []Config{a.(Config)}
		}
		for _, x := range l {
			clear(x.State.Locs[:cap(x.State.Locs)])
			clear(x.State.Vars[:cap(x.State.Vars)])
			clear(x.Clocks[:cap(x.Clocks)])
		}
	}
	if fmt.Sprint(n, r, g)+whole(c) != before {
		t.Error("changed")
	}
}

// TestP6Again: nothing is kept between calls.
func TestP6Again(t *testing.T) {
	n := said(t, rich)
	r := ran(t, n, "10/3 A.0 B.0\n0 B.1\n2 A.3 B.2\n0 end\n")
	a, _, _ := All(n, r)
	other := said(t, small)
	Check(other, ran(t, other, "3 A.0\n0 end\n"), aim(t, other, "A.b"))
	b, _, _ := All(n, r)
	if fmt.Sprint(a) != fmt.Sprint(b) {
		t.Error(a, b)
	}
}

// TestP1Any: nothing panics, whatever it is given, and beside an error there is nothing.
func TestP1Any(t *testing.T) {
	r := source(14)
	any := func() int { return wild[r.IntN(len(wild))] }
	anyRat := func() api.Rat { return api.Rat{Num: int64(any()), Den: int64(any())} }
	anyMove := func() api.Move {
		return api.Move{Auto: any() * r.IntN(2), Edge: any(), With: any() * r.IntN(2), Take: any() * r.IntN(2)}
	}
	some := func(k int) []int {
		var l []int
		for range k {
			l = append(l, any()*r.IntN(2))
		}
		return l
	}
	var nets []api.Net
	for _, w := range wrongNets(t) {
		nets = append(nets, w.n)
	}
	nets = append(nets, said(t, small), said(t, loop), said(t, "auto A { loc a; }"))
	nets = append(nets, slices.Repeat([]api.Net{said(t, rich)}, 20)...)
	goals := []api.Goal{nil, {}, aim(t, said(t, rich), richGoal), make(api.Goal, api.MaxGoal+1)}
	for _, w := range wrongGoals(t) {
		goals = append(goals, w.g)
	}
	counts := map[api.Errno]int{}
	for range 12000 {
		n := nets[r.IntN(len(nets))]
		c := Config{State: api.State{Locs: some(r.IntN(4)), Vars: some(r.IntN(4))}}
		for range r.IntN(4) {
			c.Clocks = append(c.Clocks, anyRat())
		}
		if r.IntN(2) == 0 {
			c = at(t, said(t, rich), "A.a,B.a;n=0,m=2 3 3")
			*[]*int{&c.State.Locs[0], &c.State.Locs[1], &c.State.Vars[0], &c.State.Vars[1]}[r.IntN(4)] = any()
		}
		later, err := Wait(n, c, anyRat())
		counts[err]++
		next, err2 := Do(n, c, anyMove())
		counts[err2]++
		for _, x := range []struct {
			Config
			err api.Errno
		}{{later, err}, {next, err2}} {
			if (x.err == api.OK) != (x.State.Locs != nil) || x.err != api.OK && (x.Clocks != nil || x.State.Vars != nil) {
				t.Fatal(x)
			}
		}
		part, err := Meets(n, c, goals[r.IntN(len(goals))])
		if counts[err]++; err != api.OK && part != 0 {
			t.Fatal(part, err)
		}
		d, just, some := Longest(n, c)
		if check.Net(n) != api.OK && (d != api.Rat{Den: 1} || !just || !some) || !some && (just || d != api.Rat{}) {
			t.Fatal(d, just, some)
		}
		x := api.Run{Last: anyRat()}
		for range r.IntN(3) {
			x.Steps = append(x.Steps, api.Step{Delay: anyRat(), Move: anyMove()})
		}
		l, err, step := All(n, x)
		if (err == api.OK) != (l != nil) || step < 0 || step > len(x.Steps) || err == api.OK && step != 0 {
			t.Fatal(l, err, step)
		}
		if err, step := Check(n, x, goals[r.IntN(len(goals))]); step < 0 || step > len(x.Steps) || err == api.OK && step != len(x.Steps) {
			t.Fatal(err, step)
		}
	}
	for _, err := range []api.Errno{api.OK, api.ErrState, api.ErrMove, api.ErrDelay, api.ErrRange, api.ErrConst} {
		if counts[err] < 100 {
			t.Error(err, counts)
		}
	}
}
