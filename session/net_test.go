package session

import (
	"math"
	"math/rand/v2"
	"slices"
	"strconv"
	"strings"
	"testing"

	"gnomon/api"
	"gnomon/parse"
	"gnomon/region"
	"gnomon/replay"
	"gnomon/run"
)

// found is what a question tells whose goal is found.
func found(stored int, run string) Answer {
	return Answer{Verdict: api.Reachable, Stored: stored, Run: run}
}

// never is what one tells whose goal is not reachable.
func never(stored int) Answer { return Answer{Verdict: api.Unreachable, Stored: stored} }

// TestP27Example2: DOC.md's network, by hand; and its first examples.
func TestP27Example2(t *testing.T) {
	areAnswers(t, found(2, "3 A.0\n0 end\n"))(Net(small, Ask{Goal: "A.b", Fuel: 9}))
	areAnswers(t, found(2, "3 A.0\n22/3 end\n"), never(2), found(1, "0 end\n"))(Net(small, Ask{Goal: "A.b && x > 7", Fuel: 9}, Ask{Goal: "A.a && x > 5", Fuel: 9}, Ask{Goal: "true", Fuel: 9}))
	areAnswers(t, never(1))(Net(strings.Replace(small, "x >= 3", "x > 5", 1), Ask{Goal: "A.b", Fuel: 9}))
	isWrong(t, api.ErrDiagonal, 54)(Net("clock x, y; auto A { loc a; loc b; edge a -> b when x - y < 3; }", Ask{}))
}

// wrongNets are texts of networks that parse does not take, with the place.
func wrongNets() []struct {
	text string
	err  api.Errno
	at   int
} {
	return []struct {
		text string
		err  api.Errno
		at   int
	}{
		{"", api.ErrEnd, 0}, {"  ", api.ErrEnd, 2}, {"clock x;", api.ErrEnd, 8}, {"auto A { }", api.ErrSyntax, 9}, {"auto A { loc a; edge a -> b; }", api.ErrName, 26}, {"clock x; clock x;", api.ErrName, 15},
		{"clock x; auto A { loc a inv x <= 07; }", api.ErrNumber, 33}, {"clock x; auto A { loc a inv x <= 1048577; }", api.ErrNumber, 33}, {"clock x, y; auto A { loc a inv x - y < 3; }", api.ErrDiagonal, 33}, {"int n in 3 .. 2 := 3; auto A { loc a; }", api.ErrVar, 14}, {"auto A { loc a; } @", api.ErrChar, 18}, {"auto A { loc a; ", api.ErrEnd, 16},
		{"clock a, b, c, d, e, f, g, h, i; auto A { loc a; }", api.ErrLong, 30}, {strings.Repeat(" ", api.MaxText+1), api.ErrLong, api.MaxText}, {strings.Repeat("@", api.MaxText+1), api.ErrLong, api.MaxText}, {"hello", api.ErrSyntax, 0}, {"reach A.b", api.ErrSyntax, 0}, {"\x00", api.ErrChar, 0}, {"auto A { loc a; }\xff", api.ErrChar, 17},
	}
}

// unchecked are texts of networks that parse takes, and check does not.
func unchecked() []string {
	return []string{"clock x; auto A { loc a inv x <= -1; }", "clock x; auto A { loc a; edge a -> a when x > -3; }", "clock x; auto A { loc a; edge a -> a do x := -1; }", "clock x; auto A { loc a; } auto B { loc a; loc b inv x <= 5 && x >= -1048576; }"}
}

// TestP27_2Texts: a network's text that parse does not take, that check does not take; with any questions, and with too many of them.
func TestP27_2Texts(t *testing.T) {
	many := make([]Ask, api.MaxOps+1)
	for _, w := range wrongNets() {
		for _, l := range [][]Ask{nil, {}, {{Goal: "A.b", Fuel: 9}}, {{Goal: "@", Plan: 9}}, many} {
			isWrong(t, w.err, w.at)(Net(w.text, l...))
		}
	}
	for _, text := range unchecked() {
		for _, l := range [][]Ask{nil, {{Goal: "true", Fuel: 9}}, {{Goal: "@", Plan: 9}}, many} {
			isWrong(t, api.ErrConst, 0)(Net(text, l...))
		}
	}
	isWrong(t, api.ErrLong, 0)(Net(small, many...))
	isWrong(t, api.ErrLong, 0)(Net(small, slices.Repeat([]Ask{{Goal: "true", Fuel: 1}}, 2*api.MaxOps)...))
	isWrong(t, api.ErrLong, 0)(Net(rich, many...))
}

// TestP27_2Many: no question, one, MaxOps.
func TestP27_2Many(t *testing.T) {
	areAnswers(t)(Net(small))
	areAnswers(t)(Net(small, []Ask{}...))
	areAnswers(t, Answer{Errno: api.ErrEnd})(Net(small, Ask{}))
	var l []Ask
	var want []Answer
	for i := range api.MaxOps {
		l = append(l, Ask{Goal: []string{"A.b", "true", "A.a && x > 5"}[i%3], Fuel: 2, Plan: i / 3 % 3})
		want = append(want, []Answer{found(2, "3 A.0\n0 end\n"), found(1, "0 end\n"), never(2)}[i%3])
	}
	areAnswers(t, want...)(Net(small, l...))
}

// TestP27_2Goals: goals that parse does not take, with the place; that check does not take. Nothing else is told.
func TestP27_2Goals(t *testing.T) {
	for _, w := range []struct {
		goal string
		err  api.Errno
		at   int
	}{
		{"", api.ErrEnd, 0}, {"   ", api.ErrEnd, 3}, {"A", api.ErrEnd, 1}, {"A.q", api.ErrName, 2}, {"q.a", api.ErrName, 0}, {"A.b && q > 7", api.ErrName, 7}, {"A.b && x - y < 3", api.ErrDiagonal, 9}, {"A.b = 3", api.ErrChar, 4}, {"A.b && x > 1048577", api.ErrNumber, 11}, {"A.b;", api.ErrSyntax, 3}, {"reach A.b", api.ErrName, 0}, {"A.b ||", api.ErrEnd, 6},
		{strings.Repeat("A.a || ", 16) + "A.a", api.ErrLong, 112}, {strings.Repeat(" ", api.MaxText) + "A", api.ErrLong, api.MaxText},
		{"x > -1", api.ErrConst, 0}, {"A.b && y <= -1048576", api.ErrConst, 0}, {"true || x == -5", api.ErrConst, 0},
	} {
		for _, plan := range []int{0, 1, 2, 3, -1} {
			for _, fuel := range []int{0, 9} {
				// Each among others, on which it has no bearing.
				good := Ask{Goal: "true", Fuel: 1}
				areAnswers(t, found(1, "0 end\n"), Answer{Errno: w.err, At: w.at}, found(1, "0 end\n"))(Net(rich, good, Ask{Goal: w.goal, Fuel: fuel, Plan: plan, Last: fuel > 0}, good))
			}
		}
	}
}

// TestP27_2Plans: Plans that are none: ErrForm, and nothing else.
func TestP27_2Plans(t *testing.T) {
	for _, plan := range []int{math.MinInt, -2, -1, 3, 4, 256, 1 << 32, math.MaxInt} {
		for _, goal := range []string{"A.b", "true", "A.a && x > 5"} {
			areAnswers(t, Answer{Errno: api.ErrForm}, Answer{Errno: api.ErrForm})(Net(small, Ask{Goal: goal, Fuel: 9, Plan: plan}, Ask{Goal: goal, Plan: plan, Last: true}))
		}
	}
	// Each is of the network and the goal: fewer zones are stored by it.
	const text = "clock x, y; auto A { loc a inv y <= 1; loc b; edge a -> a when y == 1 do y := 0; edge a -> b when x >= 2 do x := 0; edge b -> b when x <= 50; }"
	l, err, at := Net(text, Ask{Goal: "A.b && x > 60", Fuel: 999}, Ask{Goal: "A.b && x > 60", Fuel: 999, Plan: 1}, Ask{Goal: "A.b && x > 60", Fuel: 999, Plan: 2}, Ask{Goal: "A.b && A.a", Fuel: 999}, Ask{Goal: "A.b && A.a", Fuel: 999, Plan: 1}, Ask{Goal: "A.b && A.a", Fuel: 999, Plan: 2})
	if err != api.OK || at != 0 || len(l) != 6 || l[0].Verdict != api.Reachable || l[1].Verdict != api.Reachable || l[2].Verdict != api.Reachable {
		t.Fatal(l, err, at)
	}
	if l[3].Verdict != api.Unreachable || l[4].Verdict != api.Unreachable || l[5].Verdict != api.Unreachable || l[4].Stored >= l[3].Stored || l[5].Stored >= l[3].Stored || l[4].Stored >= l[5].Stored {
		t.Error(l)
	}
}

// TestP27_2Fuel: no fuel, too little, just enough, more; first in first out, and last in first out.
func TestP27_2Fuel(t *testing.T) {
	const text = "int n in 0 .. 9 := 0; auto A { loc a; loc b; edge a -> a do n := n + 1; edge a -> b when n == 9; }"
	steps := func(many int) string { return strings.Repeat("0 A.0\n", many) }
	for _, w := range []struct {
		goal string
		pops int
		want Answer
	}{{"n == 9", 10, found(10, steps(9)+"0 end\n")}, {"A.b", 11, found(11, steps(9)+"0 A.1\n0 end\n")}, {"n < 0", 11, never(11)}, {"true", 1, found(1, "0 end\n")}} {
		for _, plan := range []int{0, 1, 2} {
			for _, last := range []bool{false, true} {
				for _, fuel := range []int{math.MinInt, -1, 0} {
					areAnswers(t, Answer{Errno: api.ErrFuel, Stored: 1})(Net(text, Ask{w.goal, last, fuel, plan}))
				}
				for fuel := 1; fuel < w.pops; fuel++ {
					areAnswers(t, Answer{Errno: api.ErrFuel, Stored: fuel + 1})(Net(text, Ask{w.goal, last, fuel, plan}))
				}
				for _, fuel := range []int{w.pops, w.pops + 1, api.MaxZones + 1, math.MaxInt} {
					areAnswers(t, w.want)(Net(text, Ask{w.goal, last, fuel, plan}))
				}
			}
		}
	}
	// A network that cannot begin needs no fuel.
	areAnswers(t, never(0), never(0))(Net("clock x; auto A { loc a inv x > 0; }", Ask{Goal: "true"}, Ask{Goal: "true", Fuel: 5, Last: true, Plan: 2}))
}

// TestP27_2Order: what was stored last is looked at first, if the question says so.
func TestP27_2Order(t *testing.T) {
	const text = "clock x; int n in 0 .. 9 := 0; auto A { loc a inv x <= 5; loc b; edge a -> a when x >= 1 do n := n + 1, x := 0; edge a -> b when n > 2 && x > 3; }"
	const way = "1 A.0\n1 A.0\n1 A.0\n19/6 A.1\n3 end\n"
	goal := "A.b && n == 4 || A.b && x > 6"
	areAnswers(t, found(8, way), found(6, way), Answer{Errno: api.ErrFuel, Stored: 2}, Answer{Errno: api.ErrFuel, Stored: 6})(Net(text, Ask{Goal: goal, Fuel: 99}, Ask{Goal: goal, Fuel: 99, Last: true}, Ask{Goal: goal, Fuel: 1}, Ask{Goal: goal, Fuel: 4, Last: true}))
}

// TestP27_2Zones: more nodes than may be stored: ErrZones, and how many were.
func TestP27_2Zones(t *testing.T) {
	const text = "int n in 0 .. 4096 := 0; auto A { loc a; edge a -> a do n := n + 1; }"
	for _, plan := range []int{0, 1, 2} {
		areAnswers(t, Answer{Errno: api.ErrZones, Stored: api.MaxZones})(Net(text, Ask{Goal: "n == 4096", Fuel: 9999, Plan: plan, Last: plan == 1}))
	}
	l, err, at := Net(text, Ask{Goal: "n == 4095", Fuel: api.MaxZones})
	if err != api.OK || at != 0 || len(l) != 1 || l[0].Errno != api.OK || l[0].Stored != api.MaxZones || strings.Count(l[0].Run, "\n") != api.MaxZones {
		t.Error(err, at)
	}
}

// asksOf are questions of one goal, by each Plan, both ways round, with some fuel.
func asksOf(goal string, fuel int) []Ask {
	var l []Ask
	for plan := range 3 {
		l = append(l, Ask{goal, false, fuel, plan}, Ask{goal, true, fuel, plan})
	}
	return l
}

// TestP27_2Model: networks and goals at random, held against searches that are gone pop by pop; runs are done by replay, and are those that the goal asks for.
func TestP27_2Model(t *testing.T) {
	errnos, verdicts := map[api.Errno]int{}, map[api.Verdict]int{}
	eachNet(t, 11, 150, func(r *rand.Rand, n api.Net, text, goal string) {
		l := asksOf(goal, api.MaxZones+1)
		l = append(l, asksOf(goal, r.IntN(8)-1)...)
		for _, a := range asksOf(goal, 3) {
			// Goals that are changed in a place.
			i := r.IntN(len(goal))
			a.Goal = goal[:i] + []string{"=", " q ", "-", "", "&& "}[r.IntN(5)] + goal[i+r.IntN(2):]
			l = append(l, a, Ask{Goal: goal, Plan: r.IntN(9) - 4, Fuel: 5})
		}
		var want []Answer
		for _, a := range l {
			want = append(want, wantAnswer(n, a))
		}
		got, err, at := Net(text, l...)
		areAnswers(t, want...)(got, err, at)
		i := r.IntN(len(l))
		areAnswers(t, want[i])(Net(text, l[i]))
		for i, a := range got {
			errnos[a.Errno]++
			verdicts[a.Verdict]++
			if a.Verdict != api.Reachable {
				if a.Run != "" {
					t.Error(a)
				}
				continue
			}
			timed, err, at := run.Parse(n, a.Run)
			g, no, _ := parse.Goal(n, l[i].Goal)
			if err != api.OK || at != 0 || no != api.OK {
				t.Error(a, err, at, no)
			}
			if err, _ := replay.Check(n, timed, g); err != api.OK {
				t.Error(a, err)
			}
		}
		if t.Failed() {
			t.Fatal(text, l)
		}
	})
	for _, err := range []api.Errno{api.OK, api.ErrFuel, api.ErrForm, api.ErrName, api.ErrChar, api.ErrSyntax} {
		if errnos[err] < 50 {
			t.Error(err, errnos)
		}
	}
	if verdicts[api.Reachable] < 300 || verdicts[api.Unreachable] < 300 || verdicts[api.Unknown] < 300 {
		t.Error(verdicts)
	}
}

// TestP27_3Questions (E10): questions that are cut tell the same up to there; and each tells the same alone.
func TestP27_3Questions(t *testing.T) {
	eachNet(t, 12, 40, func(r *rand.Rand, n api.Net, text, goal string) {
		l := asksOf(goal, r.IntN(30))
		l = append(l, Ask{}, Ask{Goal: goal + " =", Plan: 1}, Ask{Goal: goal, Plan: 7}, Ask{Goal: "true", Fuel: 1})
		r.Shuffle(len(l), func(i, j int) { l[i], l[j] = l[j], l[i] })
		whole, err, at := Net(text, l...)
		if err != api.OK || at != 0 || len(whole) != len(l) {
			t.Fatal(whole, err, at)
		}
		for i := range l {
			areAnswers(t, whole[:i]...)(Net(text, l[:i]...))
			areAnswers(t, whole[i])(Net(text, l[i]))
		}
	})
}

// TestP27_5Same (E6): questions that differ in Last and Plan alone, and end, have the same verdict; and it is that of the regions.
func TestP27_5Same(t *testing.T) {
	counts := map[api.Verdict]int{}
	eachNet(t, 13, 500, func(r *rand.Rand, n api.Net, text, goal string) {
		g, err, at := parse.Goal(n, goal)
		if err != api.OK {
			t.Fatal(err, at)
		}
		want, _, _ := region.Reach(n, g)
		l, err, at := Net(text, asksOf(goal, api.MaxZones+1)...)
		if err != api.OK || at != 0 || len(l) != 6 {
			t.Fatal(l, err, at)
		}
		for _, a := range l {
			if a.Errno == api.ErrZones {
				continue
			}
			if want == api.Unknown {
				want = a.Verdict
			}
			if a.Errno != api.OK || a.Verdict != want {
				t.Fatal(text, goal, l, want)
			}
			counts[a.Verdict]++
		}
	})
	if counts[api.Reachable] < 500 || counts[api.Unreachable] < 500 {
		t.Error(counts)
	}
}

// TestP27P6: nothing is kept between calls; questions that are handed in stay as they are.
func TestP27P6(t *testing.T) {
	l := append(asksOf("A.b && B.b || n == 2", 50), asksOf("A.k && m < 0", 5)...)
	l = slices.Grow(l, 1)
	l[:len(l)+1][len(l)].Goal = "kept"
	before := slices.Clone(l[:len(l)+1])
	first, err, at := Net(rich, l...)
	if err != api.OK || at != 0 || !slices.Equal(l[:len(l)+1], before) {
		t.Fatal(err, at, l)
	}
	for _, text := range []string{"", small, unchecked()[0], rich} {
		_, _, _ = Net(text, l...)
	}
	for i := range first {
		first[i].Run += strconv.Itoa(i)
	}
	again, _, _ := Net(rich, l...)
	for i := range again {
		again[i].Run += strconv.Itoa(i)
	}
	if !slices.Equal(first, again) || shared(first, again, l) {
		t.Error(first, again)
	}
}
