package trace

import (
	"fmt"
	"math"
	"slices"
	"strings"
	"testing"

	"gnomon/api"
	"gnomon/check"
	"gnomon/dbm"
	"gnomon/search"
	"gnomon/state"
)

// isStates holds what States answers to texts of states.
func isStates(t *testing.T, n api.Net, want ...string) func([]api.State, api.Errno) {
	return func(l []api.State, err api.Errno) {
		t.Helper()
		var got []string
		for _, s := range l {
			text, _ := state.Print(n, s)
			got = append(got, text)
		}
		if !slices.Equal(got, want) || err != api.OK {
			t.Error(got, err, "not", want)
		}
	}
}

// isZones holds what Zones answers to texts of zones.
func isZones(t *testing.T, want ...string) func([]*dbm.Zone, api.Errno) {
	return func(l []*dbm.Zone, err api.Errno) {
		t.Helper()
		if got := texts(l); !slices.Equal(got, want) || err != api.OK {
			t.Error(got, err, "not", want)
		}
	}
}

// isPart holds what Meets answers to a part's number and an error.
func isPart(t *testing.T, want int, wantErr api.Errno) func(int, api.Errno) {
	return func(part int, err api.Errno) {
		t.Helper()
		if part != want || err != wantErr {
			t.Error(part, err, "not", want, wantErr)
		}
	}
}

// isText holds what Print answers to a text and an error.
func isText(t *testing.T, want string, wantErr api.Errno) func(string, api.Errno) {
	return func(text string, err api.Errno) {
		t.Helper()
		if text != want || err != wantErr {
			t.Errorf("%q %d, not %q %d", text, err, want, wantErr)
		}
	}
}

// isRead holds what Parse answers to a way, an error and a line.
func isRead(t *testing.T, want []api.Move, wantErr api.Errno, wantLine int) func([]api.Move, api.Errno, int) {
	return func(way []api.Move, err api.Errno, line int) {
		t.Helper()
		if !slices.Equal(way, want) || err != wantErr || line != wantLine {
			t.Error(way, err, line, "not", want, wantErr, wantLine)
		}
	}
}

// fails holds all calls of a way to one error, and to nothing beside it.
func fails(t *testing.T, n api.Net, g api.Goal, want api.Errno, way ...api.Move) {
	t.Helper()
	states, err := States(n, way...)
	zones, err2 := Zones(n, way...)
	if states != nil || zones != nil || err != want || err2 != want {
		t.Error(states, err, texts(zones), err2, "not", want)
	}
	isPart(t, 0, want)(Meets(n, g, way...))
}

// TestP18Examples: those of the chapter.
func TestP18Examples(t *testing.T) {
	n := said(t, small)
	isStates(t, n, "A.a;", "A.b;")(States(n, api.Move{}))
	isZones(t, "1: x1-x0<=5", "1:")(Zones(n, api.Move{}))
	isPart(t, 0, api.OK)(Meets(n, aim(t, n, "A.b"), api.Move{}))
	isText(t, "A.0\n", api.OK)(Print(n, api.Move{}))
	n = said(t, "clock x; auto A { loc a inv x <= 5; loc b; edge a -> b when x > 5 do x := 0; }")
	isZones(t, "1: x1-x0<=5", "1: empty")(Zones(n, api.Move{}))
	isPart(t, -1, api.OK)(Meets(n, aim(t, n, "A.b"), api.Move{}))
}

// TestP18_1Of: the Moves from the first node's on, that of the one with the Parent -1 left out.
func TestP18_1Of(t *testing.T) {
	l := rowOf(-1, 0, 0, 1, 2, 3, -1, 6, 5)
	for i, want := range [][]api.Move{nil, edges(1), edges(2), edges(1, 3), edges(2, 4), edges(1, 3, 5), nil, edges(7), edges(1, 3, 5, 8)} {
		if way, err := Of(l, i); !slices.Equal(way, want) || err != api.OK {
			t.Error(i, way, err)
		}
	}
	// All of a move is told.
	l[5].Move = api.Move{Auto: 3, Edge: -9, With: 7, Take: math.MaxInt}
	if way, err := Of(l, 8); err != api.OK || way[2] != l[5].Move {
		t.Error(way, err)
	}
}

// TestP18_1None: there is no such node.
func TestP18_1None(t *testing.T) {
	for _, l := range [][]search.Node{nil, {}, rowOf(-1), rowOf(-1, 0, 1), rowOf(9)} {
		for _, i := range []int{math.MinInt, -2, -1, len(l), len(l) + 1, 1 << 32, math.MaxInt} {
			if way, err := Of(l, i); way != nil || err != api.ErrNone {
				t.Error(len(l), i, way, err)
			}
			// Not even with spare room behind the end.
			if way, err := Of(append(l, rowOf(-1, -1)...)[:len(l)], i); way != nil || err != api.ErrNone {
				t.Error(len(l), i, way, err)
			}
		}
	}
}

// TestP18_1Form: a Parent on the way is neither -1 nor the number of a node ahead of its node.
func TestP18_1Form(t *testing.T) {
	for at := range 5 {
		for _, parent := range []int{math.MinInt, -1 << 32, -2, at, at + 1, 4, 5, 6, 1 << 32, math.MaxInt} {
			l := rowOf(-1, 0, 1, 2, 3)
			if l[at].Parent = parent; parent >= 0 && parent < at {
				continue
			}
			for i := range l {
				way, err := Of(l, i)
				if want := i >= at; want != (err == api.ErrForm) || want != (err != api.OK) || want && way != nil {
					t.Error(at, parent, i, way, err)
				}
			}
		}
	}
	// One that does not lie on the way does not matter.
	if way, err := Of(rowOf(-1, 7, 0, 2), 3); !slices.Equal(way, edges(2, 3)) || err != api.OK {
		t.Error(way, err)
	}
}

// TestP18_1Long: a row of nodes may be as long as it likes.
func TestP18_1Long(t *testing.T) {
	parents := make([]int, 2*api.MaxZones)
	for i := range parents {
		parents[i] = i - 1
	}
	way, err := Of(rowOf(parents...), len(parents)-1)
	if len(way) != len(parents)-1 || err != api.OK {
		t.Fatal(len(way), err)
	}
	for i, m := range way {
		if m.Edge != i+1 {
			t.Fatal(i, m)
		}
	}
}

// TestP18_2States: the first state, and that behind each move; whether time lets it be done is not asked.
func TestP18_2States(t *testing.T) {
	n := said(t, rich)
	isStates(t, n, "A.a,B.a;n=0,m=2")(States(n))
	isStates(t, n, "A.a,B.a;n=0,m=2", "A.b,B.u;n=1,m=4", "A.b,B.b;n=1,m=4", "A.a,B.a;n=1,m=4", "A.b,B.u;n=2,m=8")(States(n, richWay()...))
	isStates(t, n, "A.a,B.a;n=0,m=2", "A.k,B.a;n=0,m=-2", "A.a,B.a;n=0,m=-2", "A.k,B.a;n=0,m=2")(States(n, edges(1, 2, 1)...))
	n = said(t, "clock x; auto A { loc a inv x > 3; loc b; edge a -> b when x < 0; edge b -> a when x > 2 && x < 2; }")
	isStates(t, n, "A.a;", "A.b;", "A.a;")(States(n, edges(0, 1)...))
	isZones(t, "1: empty", "1: empty", "1: empty")(Zones(n, edges(0, 1)...))
	// Without clocks, without variables.
	n = said(t, "auto A { loc a; edge a -> a; }")
	isStates(t, n, "A.a;", "A.a;")(States(n, api.Move{}))
	isZones(t, "0:", "0:")(Zones(n, api.Move{}))
	isZones(t, "0:")(Zones(n))
}

// TestP18_2Open: moves.After's error of the first move that is not open, at each place.
func TestP18_2Open(t *testing.T) {
	n := said(t, rich)
	g := aim(t, n, richGoal)
	for at := range len(richWay()) + 1 {
		for _, m := range []api.Move{{Auto: -1}, {Auto: 2}, {Edge: 4}, {Edge: -1}, {}, {With: 1}, {With: 3}, {With: -1}, {With: 2, Take: 3}, {Auto: 1, With: 1}, {Edge: 1, Take: 1}, {Auto: 1, Edge: 1, With: 1}, {Edge: 2}} {
			way := slices.Insert(richWay(), at, m)
			fails(t, n, g, api.ErrMove, way...)
			// What is behind it does not matter, nor what is wrong of the time ahead of it.
			fails(t, n, g, api.ErrMove, append(way, api.Move{Auto: 9}, api.Move{Edge: 1})...)
		}
	}
	// A test that does not hold; a value that may not be: ErrGuard, if it is first.
	fails(t, n, g, api.ErrGuard, slices.Insert(richWay()[:3:3], 3, api.Move{Edge: 1})...)
	fails(t, n, g, api.ErrGuard, append(edges(1, 2), api.Move{With: 2}, api.Move{Auto: 9})...)
	fails(t, n, g, api.ErrMove, append(edges(1, 2), api.Move{Auto: 9}, api.Move{With: 2})...)
	n = said(t, "int n in 0 .. 2 := 0; auto A { loc a; edge a -> a do n := n + 1; }")
	isStates(t, n, "A.a;n=0", "A.a;n=1", "A.a;n=2")(States(n, edges(0, 0)...))
	fails(t, n, nil, api.ErrGuard, edges(0, 0, 0)...)
	// Somebody else is in a Committed location.
	n = said(t, "auto A { loc a; edge a -> a; } auto B { loc k committed; loc b; edge k -> b; }")
	fails(t, n, nil, api.ErrMove, api.Move{})
	isStates(t, n, "A.a,B.k;", "A.a,B.b;", "A.a,B.b;")(States(n, api.Move{Auto: 1}, api.Move{}))
}

// TestP18Wrong: check.Net's error, then ErrLong, ahead of all others.
func TestP18Wrong(t *testing.T) {
	n := said(t, rich)
	long := make([]api.Move, api.MaxZones+1)
	longText := strings.Repeat("\n", api.MaxZones+1)
	goals := append(wrongGoals(t), fault{g: aim(t, n, richGoal)}, fault{})
	for _, w := range wrongNets(t) {
		for _, way := range [][]api.Move{nil, edges(1), edges(-1), long} {
			for _, g := range goals {
				fails(t, w.n, g.g, w.err, way...)
			}
			isText(t, "", w.err)(Print(w.n, way...))
		}
		for _, text := range []string{"", "A.1\n", "x", longText} {
			isRead(t, nil, w.err, 0)(Parse(w.n, text))
		}
	}
	for _, g := range goals {
		fails(t, n, g.g, api.ErrLong, long...)
	}
	isText(t, "", api.ErrLong)(Print(n, long...))
	isRead(t, nil, api.ErrLong, 0)(Parse(n, longText))
	// Of Meets alone: check.Goal's error, ahead of that of the way.
	for _, w := range wrongGoals(t) {
		for _, way := range [][]api.Move{nil, richWay(), edges(-1), long[:api.MaxZones]} {
			isPart(t, 0, w.err)(Meets(n, w.g, way...))
		}
	}
	n = said(t, ticking)
	isPart(t, 0, api.ErrLoc)(Meets(n, api.Goal{{Locs: []api.At{{Loc: 3}}}}, make([]api.Move, 257)...))
}

// TestP18_2Long: a way may have MaxZones moves, and no more.
func TestP18_2Long(t *testing.T) {
	n := said(t, "clock x; auto A { loc a inv x <= 2; edge a -> a when x >= 1 do x := 0; }")
	way := make([]api.Move, api.MaxZones)
	states, err := States(n, way...)
	if len(states) != api.MaxZones+1 || err != api.OK {
		t.Error(len(states), err)
	}
	zones, err := Zones(n, way...)
	if len(zones) != api.MaxZones+1 || err != api.OK || zones[api.MaxZones].Print() != "1: x1-x0<=2" {
		t.Error(len(zones), err)
	}
	isPart(t, 1, api.OK)(Meets(n, aim(t, n, "x > 2 || x > 1"), way...))
	isText(t, strings.Repeat("A.0\n", api.MaxZones), api.OK)(Print(n, way...))
	isRead(t, way, api.OK, 0)(Parse(n, strings.Repeat("A.0\n", api.MaxZones)))
	fails(t, n, nil, api.ErrLong, append(way, api.Move{})...)
	isText(t, "", api.ErrLong)(Print(n, append(way, api.Move{})...))
	isRead(t, nil, api.ErrLong, 0)(Parse(n, strings.Repeat("A.0\n", api.MaxZones+1)))
	// Line feeds are counted, not lines; and ahead of all else.
	isRead(t, nil, api.ErrMove, api.MaxZones+1)(Parse(n, strings.Repeat("A.0\n", api.MaxZones)+"A.0"))
	isRead(t, nil, api.ErrMove, 1)(Parse(n, strings.Repeat("\n", api.MaxZones)))
	isRead(t, nil, api.ErrLong, 0)(Parse(n, "x"+strings.Repeat("\n", api.MaxZones+1)+"x"))
}

// TestP18_2Zones: the zones by hand.
func TestP18_2Zones(t *testing.T) {
	n := said(t, rich)
	isZones(t, "2: x1-x0<=5 x1-x2<=0 x2-x0<=5 x2-x1<=0")(Zones(n))
	isZones(t,
		"2: x1-x0<=5 x1-x2<=0 x2-x0<=5 x2-x1<=0",
		// In the urgent location no time passes.
		"2: x0-x1<=-3 x0-x2<=-2 x1-x0<=3 x1-x2<=1 x2-x0<=2 x2-x1<=-1",
		"2: x0-x1<=-3 x0-x2<=-2 x1-x0<8 x1-x2<=1 x2-x0<7 x2-x1<=-1",
		"2: x0-x1<=-5 x0-x2<=-1 x1-x0<=5 x1-x2<=4 x2-x0<=1 x2-x1<=-4",
	)(Zones(n, richWay()[:3]...))
	// A set that the invariant behind it does not let be; and so on.
	isZones(t, "2: x1-x0<=5 x1-x2<=0 x2-x0<=5 x2-x1<=0", "2: x0-x1<=-7 x0-x2<-1 x1-x0<=7 x1-x2<6 x2-x0<=5 x2-x1<=-2", "2: empty", "2: empty")(Zones(n, edges(1, 2, 1)...))
	// Nothing is made wider: though nothing holds x against a number.
	n = said(t, "clock x, y; auto A { loc a urgent; loc b inv y <= 3; edge a -> b do x := 9; edge b -> a when y == 3; }")
	isZones(t,
		"2: x1-x0<=0 x1-x2<=0 x2-x0<=0 x2-x1<=0",
		"2: x0-x1<=-9 x1-x0<=12 x1-x2<=9 x2-x0<=3 x2-x1<=-9",
		"2: x0-x1<=-12 x0-x2<=-3 x1-x0<=12 x1-x2<=9 x2-x0<=3 x2-x1<=-9",
	)(Zones(n, edges(0, 1)...))
	r := source(1)
	for k := range 600 {
		n := someNet(r, k%5, 4)
		way := someWay(r, n, 8)
		want, _ := wantZones(n, way)
		isZones(t, texts(want)...)(Zones(n, way...))
	}
}

// TestP18_2Bound (E3): a long way passes MaxBound; an empty zone does not; a move that is not open counts ahead of it.
func TestP18_2Bound(t *testing.T) {
	n := said(t, ticking)
	rounds := func(edge, many int, more ...int) []api.Move {
		return edges(append(slices.Repeat([]int{edge}, many), more...)...)
	}
	isBound := func(want string, way []api.Move) {
		t.Helper()
		if states, err := States(n, way...); len(states) != len(way)+1 || err != api.OK {
			t.Fatal(err)
		}
		l, err := Zones(n, way...)
		if wanted, wantErr := wantZones(n, way); err != wantErr || !slices.Equal(texts(l), texts(wanted)) {
			t.Fatal(err, wantErr)
		}
		if want == "" {
			if l != nil || err != api.ErrBound {
				t.Error(len(way), len(l), err)
			}
			isPart(t, 0, api.ErrBound)(Meets(n, aim(t, n, "true"), way...))
			isPart(t, 0, api.ErrBound)(Meets(n, nil, way...))
		} else if err != api.OK || l[len(way)].Print() != want {
			t.Error(err, texts(l))
		}
	}
	isBound("2: x0-x2<=-268435456 x1-x2<=-268435456 x2-x1<=268435456", rounds(0, 256))
	isBound("", rounds(0, 257))
	isBound("", rounds(0, 300))
	isBound("2: x0-x2<=-268435456 x1-x2<=-268435456", rounds(1, 256))
	isBound("", rounds(1, 257))
	// From above: at most so long, and one more while it waits.
	isBound("2: x1-x0<=1048576 x1-x2<=0 x2-x0<=268435456 x2-x1<=267386880", append(edges(4), rounds(5, 255)...))
	isBound("", append(edges(4), rounds(5, 256)...))
	// Empty ahead of it: then all is.
	isBound("2: empty", rounds(0, 256, 2))
	isBound("2: empty", append(rounds(0, 256, 2), rounds(0, 300)...))
	isBound("2: empty", append(rounds(2, 1), rounds(1, 300)...))
	// A move that is not open, far behind.
	fails(t, n, nil, api.ErrMove, append(rounds(0, 300), api.Move{Edge: 5})...)
	fails(t, n, nil, api.ErrMove, append(rounds(0, 300, 3), api.Move{})...)
}

// TestP18_2Meets: the first part that has something in common with the last zone, in the last state.
func TestP18_2Meets(t *testing.T) {
	n := said(t, small)
	for _, c := range []struct {
		goal        string
		none, moved int
	}{
		{"", -1, -1},
		{"true", 0, 0},
		{"A.a", 0, -1},
		{"A.b || A.a", 1, 0},
		{"A.a && A.b", -1, -1},
		{"x > 5", -1, 0},
		{"x >= 5", 0, 0},
		{"x > 5 || x < 0 || x == 4", 2, 0},
		{"x < 3 && x > 3 || A.a && x > 5", -1, -1},
		{"A.a && x > 5 || A.b && x < 0 || A.b && x == 1000000", -1, 2},
	} {
		isPart(t, c.none, api.OK)(Meets(n, aim(t, n, c.goal)))
		isPart(t, c.moved, api.OK)(Meets(n, aim(t, n, c.goal), api.Move{}))
	}
	n = said(t, rich)
	isPart(t, 1, api.OK)(Meets(n, aim(t, n, "A.b && B.b && n == 2 || A.b && B.b && n == 1 && m > 3"), richWay()[:2]...))
	isPart(t, -1, api.OK)(Meets(n, aim(t, n, "A.b && B.b && y >= 7 || A.b && B.b && x >= 8 || m < 4"), richWay()[:2]...))
	// What has no value does not hold.
	isPart(t, 2, api.OK)(Meets(n, aim(t, n, "1048576 * 1048576 * 1048576 * 1048576 > 0 || !(1048576 * 1048576 * 1048576 * 1048576 > 0) || true")))
	// Empty zones meet nothing.
	isPart(t, -1, api.OK)(Meets(n, aim(t, n, "true || A.a"), edges(1, 2)...))
}

// TestP18_2MeetsBound: ErrBound, if one of succ.Meets has it, ahead of the first part that meets.
func TestP18_2MeetsBound(t *testing.T) {
	n := said(t, ticking)
	way := make([]api.Move, 256)
	for goal, want := range map[string]int{
		"true || x >= 1":                   0,
		"x < 0 || true || x >= 1":          1,
		"A.b && x >= 1 || A.a":             1,
		"x >= 1 && y <= 5 || A.a":          1,
		"A.b && x >= 1":                    -1,
		"x >= 1 && y <= 5 || x < 0 || A.b": -1,
	} {
		isPart(t, want, api.OK)(Meets(n, aim(t, n, goal), way...))
	}
	for _, goal := range []string{"x >= 1", "x >= 1 || true", "x < 0 || x >= 1 || true", "A.b || x > 1 || A.a", "A.a && x < 3 && x >= 1"} {
		isPart(t, 0, api.ErrBound)(Meets(n, aim(t, n, goal), way...))
		if part, err := Meets(n, aim(t, n, goal), way[:255]...); part < 0 || err != api.OK {
			t.Error(goal, part, err)
		}
	}
}

// TestP18_3Print: each move's text, ended by a line feed; ErrMove, if one is no move; whether it is open is not asked.
func TestP18_3Print(t *testing.T) {
	n := said(t, rich)
	isText(t, "", api.OK)(Print(n))
	isText(t, "A.0 B.0\nB.1\nA.3 B.2\nA.0 B.0\n", api.OK)(Print(n, richWay()...))
	isText(t, "A.2\nB.1\nB.1\nA.3 B.2\nA.2\n", api.OK)(Print(n, api.Move{Edge: 2}, api.Move{Auto: 1, Edge: 1}, api.Move{Auto: 1, Edge: 1}, api.Move{Edge: 3, With: 2, Take: 2}, api.Move{Edge: 2}))
	for at := range 5 {
		for _, m := range []api.Move{{}, {Auto: 2}, {Auto: -1}, {Edge: 4}, {With: 1}, {With: 2, Take: 2}, {Edge: 1, Take: 1}, {Auto: 1, With: 1}, {Edge: 1, With: 2, Take: 1}} {
			isText(t, "", api.ErrMove)(Print(n, slices.Insert(richWay(), at, m)...))
		}
	}
	// Numbers of more than one digit.
	n = said(t, "auto A { loc a; "+strings.Repeat("edge a -> a; ", 256)+"}")
	isText(t, "A.9\nA.10\nA.255\nA.0\n", api.OK)(Print(n, edges(9, 10, 255, 0)...))
	isText(t, "", api.ErrMove)(Print(n, edges(9, 256)...))
}

// TestP18_3Parse: the way with that text; else the first line that is no move's text, or is not ended.
func TestP18_3Parse(t *testing.T) {
	n := said(t, rich)
	isRead(t, nil, api.OK, 0)(Parse(n, ""))
	isRead(t, richWay(), api.OK, 0)(Parse(n, "A.0 B.0\nB.1\nA.3 B.2\nA.0 B.0\n"))
	// Whether it is open is not asked.
	isRead(t, edges(2, 2, 1), api.OK, 0)(Parse(n, "A.2\nA.2\nA.1\n"))
	good := []string{"A.0 B.0", "B.1", "A.3 B.2", "A.1"}
	for at := range good {
		for _, bad := range []string{"", " ", "A", "A.", "A.0", ".1", "A.4", "A.-1", "A.01", "A.+1", "A.1 ", " A.1", "A.1\r", "A.1\t", "A. 1", "A .1", "C.0", "a.1", "x.0", "A.1.1", "A.1;", "A.1,", "A.1, A.1", ", ", "A.1, ", "A.1,A.1", "A.0  B.0", "A.0 B.1", "B.0 A.0", "A.0 B.0 B.0", "A.0\u00a0B.0", "A.1\x00", "A.99999999999999999999", "A.18446744073709551617", "\xff", "A.1 B.1"} {
			lines := slices.Clone(good)
			lines[at] = bad
			isRead(t, nil, api.ErrMove, at+1)(Parse(n, strings.Join(lines, "\n")+"\n"))
			isRead(t, nil, api.ErrMove, at+1)(Parse(n, strings.Join(append(lines, "", bad), "\n")))
		}
	}
	// Without the last line feed; with one too many; a text behind it.
	isRead(t, nil, api.ErrMove, 4)(Parse(n, strings.Join(good, "\n")))
	isRead(t, nil, api.ErrMove, 5)(Parse(n, strings.Join(good, "\n")+"\n\n"))
	isRead(t, nil, api.ErrMove, 5)(Parse(n, strings.Join(good, "\n")+"\n "))
	isRead(t, nil, api.ErrMove, 5)(Parse(n, strings.Join(good, "\n")+"\nA.1"))
	isRead(t, nil, api.ErrMove, 1)(Parse(n, "\n"))
	isRead(t, nil, api.ErrMove, 1)(Parse(n, "\n"+strings.Join(good, "\n")+"\n"))
	isRead(t, nil, api.ErrMove, 2)(Parse(n, "A.1\n\nA.1\n"))
	isRead(t, nil, api.ErrMove, 1)(Parse(n, "A.1"))
	isRead(t, nil, api.ErrMove, 1)(Parse(n, "A.1\r\n"))
}

// TestP3Lists: what is handed in stays as it is, spare room too; what is answered is the caller's.
func TestP3Lists(t *testing.T) {
	n := said(t, rich)
	g := aim(t, n, richGoal)
	before := fmt.Sprint(n, g)
	way := append(richWay(), api.Move{Auto: 77}, api.Move{Auto: 78})[:4]
	nodes := append(rowOf(-1, 0, 1), rowOf(55, 56)...)[:3]
	var answers []any
	for range 2 {
		l, _ := Of(nodes, 2)
		states, _ := States(n, way...)
		zones, _ := Zones(n, way...)
		read, _, _ := Parse(n, "A.1\nA.2\n")
		Meets(n, g, way...)
		Print(n, way...)
		answers = append(answers, l, states, zones, read)
	}
	if shared(append(answers, way, nodes, n, g)...) {
		t.Error("shared")
	}
	for _, a := range answers {
		switch x := a.(type) {
		case []api.Move:
			clear(x[:cap(x)])
		case []api.State:
			for _, s := range x {
				clear(s.Locs[:cap(s.Locs)])
				clear(s.Vars[:cap(s.Vars)])
			}
			clear(x[:cap(x)])
		case []*dbm.Zone:
			clear(x[:cap(x)])
		}
	}
	if fmt.Sprint(n, g) != before || !slices.Equal(way[:6], append(richWay(), api.Move{Auto: 77}, api.Move{Auto: 78})) || fmt.Sprint(nodes[:5]) != fmt.Sprint(append(rowOf(-1, 0, 1), rowOf(55, 56)...)) {
		t.Error("changed")
	}
	isStates(t, n, "A.a,B.a;n=0,m=2", "A.b,B.u;n=1,m=4")(States(n, way[0]))
}

// TestP1Any: nothing panics, whatever it is given, and beside an error there is nothing.
func TestP1Any(t *testing.T) {
	r := source(14)
	wild := []int{math.MinInt, -1 << 32, -2, -1, 0, 0, 0, 0, 0, 1, 1, 1, 2, 2, 3, 255, 1 << 20, 1<<20 + 1, 1 << 32, math.MaxInt}
	any := func() int { return wild[r.IntN(len(wild))] }
	nets := []api.Net{said(t, rich), said(t, small), said(t, "auto A { loc a; edge a -> a; }")}
	for _, w := range wrongNets(t) {
		nets = append(nets, w.n)
	}
	counts := map[api.Errno]int{}
	for range 20000 {
		n := nets[r.IntN(len(nets))]
		var way []api.Move
		var nodes []search.Node
		for range r.IntN(4) {
			way = append(way, api.Move{Auto: any(), Edge: any(), With: any() * r.IntN(2), Take: any() * r.IntN(2)})
			nodes = append(nodes, search.Node{Parent: any()})
		}
		var g api.Goal
		if r.IntN(2) == 0 {
			g = api.Goal{{Locs: []api.At{{Auto: any(), Loc: any()}}, Guards: []api.Guard{{Clock: any(), Other: any(), Cmp: api.Cmp(any()), N: any()}}, Test: []api.Node{{Op: api.Op(any()), N: any()}}}}
		}
		if l, err := Of(nodes, any()); err != api.OK && l != nil {
			t.Fatal(nodes, l, err)
		}
		states, err := States(n, way...)
		zones, err2 := Zones(n, way...)
		if err != err2 || (err != api.OK) != (states == nil) || (err != api.OK) != (zones == nil) || check.Net(n) != api.OK && err != check.Net(n) {
			t.Fatal(n, way, err, err2)
		}
		counts[err]++
		if part, err := Meets(n, g, way...); err != api.OK && part != 0 || part >= max(1, len(g)) {
			t.Fatal(part, err)
		}
		text, err := Print(n, way...)
		if err != api.OK && text != "" {
			t.Fatal(text, err)
		}
		bytes := []byte(text + "A.0\nB.1")
		bytes[r.IntN(len(bytes))] = byte(r.IntN(256))
		if l, err, line := Parse(n, string(bytes)); err == api.OK && line != 0 || err != api.OK && l != nil || err == api.ErrMove && (line < 1 || line > len(way)+3) {
			t.Fatal(l, err, line)
		}
	}
	if counts[api.OK] < 500 || counts[api.ErrMove] < 500 || counts[api.ErrDiagonal] < 100 {
		t.Error(counts)
	}
}
