package query

import (
	"fmt"
	"math"
	"slices"
	"strings"
	"testing"

	"gnomon/api"
	"gnomon/check"
	"gnomon/net"
	"gnomon/parse"
	"gnomon/run"
)

// isAsked holds what Parse answers to a question.
func isAsked(t testing.TB, want Question) func(Question, api.Errno, int) {
	return func(q Question, err api.Errno, at int) {
		t.Helper()
		if err != api.OK || at != 0 || !isAlike(q, want) {
			t.Errorf("%v %d %d, not %v", q, err, at, want)
		}
	}
}

// isWrong holds what Parse answers to an error and a place, and nothing beside them.
func isWrong(t testing.TB, want api.Errno, place int) func(Question, api.Errno, int) {
	return func(q Question, err api.Errno, at int) {
		t.Helper()
		if err != want || at != place || q.Never || q.Goal != nil {
			t.Errorf("%v %d %d, not %d %d", q, err, at, want, place)
		}
	}
}

// isText holds what Print answers to what it must answer.
func isText(t testing.TB, want string, wantErr api.Errno) func(string, api.Errno) {
	return func(s string, err api.Errno) {
		t.Helper()
		if s != want || err != wantErr {
			t.Errorf("%q %d, not %q %d", s, err, want, wantErr)
		}
	}
}

// isErr holds an error to what it must be.
func isErr(t testing.TB, err, want api.Errno) {
	t.Helper()
	if err != want {
		t.Errorf("%d, not %d", err, want)
	}
}

// TestP22Examples: those of the chapter, and of DOC.md.
func TestP22Examples(t *testing.T) {
	n := said(t, small)
	areTold(t, n, Ask(n, asked(t, n, "reach A.b")), "0 1 true 2 2 0: 3 A.0, 0 end")
	areTold(t, n, Ask(n, asked(t, n, "never A.b")), "0 1 false 2 2 0: 3 A.0, 0 end")
	areTold(t, n, Ask(n, asked(t, n, "never A.a && x > 5")), "0 2 true 2 2 0:")
	areTold(t, n, Ask(n, asked(t, n, "reach A.a && x > 5")), "0 2 false 2 2 0:")
	areTold(t, n, Ask(n, asked(t, n, "reach A.b && x > 7")), "0 1 true 2 2 0: 3 A.0, 22/3 end")
	areTold(t, n, Ask(n, asked(t, n, "reach true")), "0 1 true 1 1 0: 0 end")
	areTold(t, n, Ask(n, asked(t, n, "never true")), "0 1 false 1 1 0: 0 end")
	n.Autos[0].Edges[0].Guards[0] = api.Guard{Clock: 1, Cmp: api.Gt, N: 5}
	areTold(t, n, Ask(n, asked(t, n, "reach A.b")), "0 2 false 1 1 0:")
	areTold(t, n, Ask(n, asked(t, n, "never A.b")), "0 2 true 1 1 0:")
}

// TestP22_1Parse: the word, a blank, and the goal.
func TestP22_1Parse(t *testing.T) {
	n := said(t, rich)
	for _, goal := range []string{"A.b", "true", "A.b && x > 7 || true", richGoal, "  A.b", " \t\r\n# remark\n A.b", "A.b ", "A.b # reach", "(n < 3 || m == 2)", "n < 3", "x>=3", "-n < 3"} {
		isAsked(t, Question{Goal: aim(t, n, goal)})(Parse(n, "reach "+goal))
		isAsked(t, Question{Never: true, Goal: aim(t, n, goal)})(Parse(n, "never "+goal))
	}
	// By hand.
	isAsked(t, Question{Never: true, Goal: api.Goal{{Locs: []api.At{{Auto: 1, Loc: 2}}, Guards: []api.Guard{{Clock: 2, Cmp: api.Gt, N: 3}}}, {}}})(Parse(n, "never B.b && y > 3 || true"))
	isAsked(t, Question{Goal: api.Goal{{Test: []api.Node{{Op: api.Less}, {Op: api.Var}, {Op: api.Num, N: 3}}}}})(Parse(n, "reach n < 3"))
}

// TestP22_1Word: texts without their first word, without the blank.
func TestP22_1Word(t *testing.T) {
	n := said(t, rich)
	for _, s := range []string{
		"", " ", "  ", "A.b", " A.b", "true", "reach", "never", "reachA.b", "neverA.b", "reach(n < 3)", "never(n < 3)", "reach\tA.b", "never\nA.b", "reach\rA.b", "reach\u00a0A.b", "reach\x00A.b", "reach#\n A.b", "reach!(n < 3)", "reach-n < 3",
		" reach A.b", "\treach A.b", "# x\nreach A.b", "Reach A.b", "NEVER A.b", "reac A.b", "nevr A.b", "reachh A.b", "nevera A.b", "reach, A.b", "reach: A.b", "reach. A.b", "each A.b", "ever A.b", "find A.b", "always A.b", "reachnever A.b", "reach\x80 A.b", "\ufeffreach A.b", "x reach A.b", "true reach A.b", "A.b reach ", "A.b never", "reach\n",
	} {
		isWrong(t, api.ErrSyntax, 0)(Parse(n, s))
	}
}

// TestP22_1Place: a goal that is none, at each place: parse.Goal's error, and its place in the text.
func TestP22_1Place(t *testing.T) {
	n := said(t, rich)
	for _, w := range []struct {
		s   string
		err api.Errno
		at  int
	}{
		{"reach ", api.ErrEnd, 6}, {"never ", api.ErrEnd, 6}, {"reach    ", api.ErrEnd, 9}, {"reach #", api.ErrEnd, 7},
		{"reach reach A.b", api.ErrName, 6}, {"never reach A.b", api.ErrName, 6}, {"reach && A.b", api.ErrSyntax, 6}, {"reach q.b", api.ErrName, 6}, {"never A.q", api.ErrName, 8}, {"reach A", api.ErrEnd, 7}, {"reach A.", api.ErrEnd, 8}, {"reach A b", api.ErrSyntax, 8},
		{"reach A.b &&", api.ErrEnd, 12}, {"reach A.b && q > 7", api.ErrName, 13}, {"reach A.b || x - y < 3", api.ErrDiagonal, 15}, {"never A.b && x > 1048577", api.ErrNumber, 17}, {"reach A.b && x > 07", api.ErrNumber, 17}, {"reach A.b = 3", api.ErrChar, 10}, {"reach A.b ; ", api.ErrSyntax, 10}, {"reach A.b A.a", api.ErrSyntax, 10}, {"reach A.b | A.a", api.ErrChar, 10}, {"reach A.b\x80", api.ErrChar, 9}, {"reach  A.b , x", api.ErrSyntax, 11},
		{"reach " + strings.Repeat("A.a || ", 16) + "A.a", api.ErrLong, 6 + 7*16},
	} {
		isWrong(t, w.err, w.at)(Parse(n, w.s))
	}
	// At each place of a goal.
	tried := 0
	for i := range len(richGoal) + 1 {
		for _, piece := range []string{"=", " q ", ";", "@"} {
			goal := richGoal[:i] + piece + richGoal[i:]
			_, err, at := parse.Goal(n, goal)
			if err == api.OK {
				isAsked(t, Question{Goal: aim(t, n, goal)})(Parse(n, "reach "+goal))
				continue
			}
			tried++
			isWrong(t, err, 6+at)(Parse(n, "reach "+goal))
			isWrong(t, err, 7+at)(Parse(n, "never  "+goal))
		}
		if _, err, at := parse.Goal(n, richGoal[:i]); err != api.OK {
			isWrong(t, err, 6+at)(Parse(n, "never "+richGoal[:i]))
		}
	}
	if tried < 200 {
		t.Error(tried)
	}
	// A goal's text may be MaxText long, whatever stands ahead of it.
	isAsked(t, Question{Goal: aim(t, n, "A.b")})(Parse(n, "reach "+strings.Repeat(" ", api.MaxText-3)+"A.b"))
	isWrong(t, api.ErrLong, api.MaxText+6)(Parse(n, "reach "+strings.Repeat(" ", api.MaxText-2)+"A.b"))
	isWrong(t, api.ErrLong, api.MaxText+6)(Parse(n, "never "+strings.Repeat("@", api.MaxText+1)))
}

// notWhole are networks that net.Right does not take; of the others only check has an error.
func notWhole(t testing.TB) (l, others []wrong) {
	for _, w := range wrongNets(t) {
		if net.Right(w.n) {
			others = append(others, w)
		} else {
			l = append(l, w)
		}
	}
	if len(l) < 9 || len(others) < 3 {
		t.Fatal(len(l), len(others))
	}
	return l, others
}

// TestP22_1Nets: Parse asks for net.Right, and for it first; Print has PrintGoal's error.
func TestP22_1Nets(t *testing.T) {
	l, others := notWhole(t)
	for _, w := range l {
		for _, s := range []string{"reach A.b", "never true", "", "A.b", "reach ", "reach q"} {
			isWrong(t, api.ErrForm, 0)(Parse(w.n, s))
		}
		for _, g := range []api.Goal{nil, {{}}, make(api.Goal, api.MaxGoal+1)} {
			isText(t, "", w.err)(Print(w.n, Question{Goal: g}))
			isText(t, "", w.err)(Print(w.n, Question{Never: true, Goal: g}))
		}
	}
	for _, w := range others {
		isAsked(t, Question{Goal: api.Goal{{Locs: []api.At{{Loc: 1}}}}})(Parse(w.n, "reach A.b"))
		isWrong(t, api.ErrSyntax, 0)(Parse(w.n, "A.b"))
		isText(t, "never A.b", api.OK)(Print(w.n, Question{Never: true, Goal: api.Goal{{Locs: []api.At{{Loc: 1}}}}}))
	}
}

// TestP22_1Print: the word, a blank, the goal's text.
func TestP22_1Print(t *testing.T) {
	n := said(t, rich)
	for _, goal := range []string{"A.b", "true", "A.b && x > 7 || true", "A.b && B.b && y > 12 || x >= 20 && n == 2 || A.k && m < 0 && 0 < n", "(n < 3 || m == 2)", "!(n == 3) && m < 2", "y <= 1048576"} {
		isText(t, "reach "+goal, api.OK)(Print(n, Question{Goal: aim(t, n, goal)}))
		isText(t, "never "+goal, api.OK)(Print(n, Question{Never: true, Goal: aim(t, n, goal)}))
	}
	isText(t, "reach ", api.OK)(Print(n, Question{}))
	isText(t, "never ", api.OK)(Print(n, Question{Never: true, Goal: api.Goal{}}))
	for _, w := range wrongGoals(t) {
		for _, never := range []bool{false, true} {
			q := Question{never, w.g}
			text, err := net.PrintGoal(n, w.g)
			if err != api.OK {
				isErr(t, err, w.err)
				isText(t, "", w.err)(Print(n, q))
			} else {
				// What check alone looks at is written.
				isText(t, map[bool]string{false: "reach ", true: "never "}[never]+text, api.OK)(Print(n, q))
			}
		}
	}
	isText(t, "reach x - y < -3", api.OK)(Print(n, Question{Goal: api.Goal{{Guards: []api.Guard{{Clock: 1, Other: 2, Cmp: api.Lt, N: -3}}}}}))
}

// TestP22_2Ways: by one way, by several, by none; first and last.
func TestP22_2Ways(t *testing.T) {
	n := said(t, "clock x; int n in 0 .. 9 := 0; auto A { loc a inv x <= 5; loc b; edge a -> a when x >= 1 do n := n + 1, x := 0; edge a -> b when n > 2 && x > 3; }")
	q := asked(t, n, "reach A.b && n == 4 || A.b && x > 6")
	first, last := "0 1 true 8 6 1: 1 A.0, 1 A.0, 1 A.0, 19/6 A.1, 3 end", "0 1 true 6 5 1: 1 A.0, 1 A.0, 1 A.0, 19/6 A.1, 3 end"
	areTold(t, n, Ask(n, q), first)
	areTold(t, n, Ask(n, q, Way{}), first)
	areTold(t, n, Ask(n, q, []Way{}...), first)
	areTold(t, n, Ask(n, q, Way{Last: true}), last)
	l := Ask(n, q, Way{Last: true}, Way{}, Way{Fuel: 1}, Way{Last: true, Fuel: 4}, Way{Plan: uniform(t, n, 6)}, Way{Plan: uniform(t, n, 99), Last: true}, Way{Plan: api.Plan{Lo: make([][][]int, 1)}}, Way{})
	areTold(t, n, l, last, first, "170 0 false 2 1 0:", "170 0 false 6 4 0:", first, last, "7 0 false 0 0 0:", first)
	q.Never = true
	areTold(t, n, Ask(n, q, Way{Last: true}, Way{}), strings.Replace(last, "true", "false", 1), strings.Replace(first, "true", "false", 1))
	// The first part that the node meets is told.
	areTold(t, n, Ask(n, asked(t, n, "reach A.b && n == 4 || A.b && x > 6 || A.b")), first)
	areTold(t, n, Ask(n, asked(t, n, "reach A.b && n == 4 || A.b || A.b && x > 6")), "0 1 true 8 6 1: 1 A.0, 1 A.0, 1 A.0, 19/6 A.1, 0 end")
	areTold(t, n, Ask(n, asked(t, n, "never A.b && n == 9 && x < 4")), "0 1 false 17 17 0: 1 A.0, 1 A.0, 1 A.0, 1 A.0, 1 A.0, 1 A.0, 1 A.0, 1 A.0, 1 A.0, 37/12 A.1, 0 end")
}

// TestP22_2Fuel: a fuel of 0, of 1, too small, just enough; below 1 it is as much as ends each search.
func TestP22_2Fuel(t *testing.T) {
	n := said(t, "int n in 0 .. 9 := 0; auto A { loc a; loc b; edge a -> a do n := n + 1; edge a -> b when n == 9; }")
	for _, w := range []struct {
		goal         string
		pops, stored int
		verdict      api.Verdict
	}{{"n == 9", 10, 10, api.Reachable}, {"A.b", 11, 11, api.Reachable}, {"n < 0", 11, 11, api.Unreachable}, {"true", 1, 1, api.Reachable}} {
		for _, never := range []bool{false, true} {
			q := Question{never, aim(t, n, w.goal)}
			for _, last := range []bool{false, true} {
				for fuel := 1; fuel < w.pops; fuel++ {
					areTold(t, n, Ask(n, q, Way{Fuel: fuel, Last: last}), fmt.Sprint("170 0 false ", fuel+1, " ", fuel, " 0:"))
				}
				for _, fuel := range []int{w.pops, w.pops + 1, api.MaxZones, api.MaxZones + 1, math.MaxInt, 0, -1, -99, math.MinInt} {
					a := Ask(n, q, Way{Fuel: fuel, Last: last})
					if len(a) != 1 || a[0].Errno != api.OK || a[0].Verdict != w.verdict || a[0].Holds != ((w.verdict == api.Reachable) != never) || a[0].Stored != w.stored || a[0].Pops != w.pops {
						t.Error(w, fuel, a)
					}
				}
			}
		}
	}
}

// TestP22_2Zones: more nodes than may be stored: ErrZones, Unknown, and how far it came. As many as may be: a verdict.
func TestP22_2Zones(t *testing.T) {
	n := said(t, "int n in 0 .. 4096 := 0; auto A { loc a; edge a -> a do n := n + 1; }")
	for _, s := range []string{"reach n == 4096", "never n < 0"} {
		areTold(t, n, Ask(n, asked(t, n, s), Way{}, Way{Last: true, Fuel: 5000}, Way{Fuel: api.MaxZones}), "160 0 false 4096 4096 0:", "160 0 false 4096 4096 0:", "160 0 false 4096 4096 0:")
	}
	areTold(t, n, Ask(n, asked(t, n, "reach n == 4096"), Way{Fuel: 4095}), "170 0 false 4096 4095 0:")
	a := Ask(n, asked(t, n, "reach n == 4095"))[0]
	if a.Errno != api.OK || a.Verdict != api.Reachable || !a.Holds || a.Stored != 4096 || a.Pops != 4096 || len(a.Run.Steps) != 4095 || Check(n, asked(t, n, "reach n == 4095"), a) != api.OK {
		t.Error(a.Errno, a.Verdict, a.Stored, a.Pops)
	}
	n = said(t, "int n in 0 .. 9999 := 0; auto A { loc a; edge a -> a do n := 2 * n + 1; edge a -> a do n := 2 * n + 2; }")
	areTold(t, n, All(n, asked(t, n, "reach n > 9000"), asked(t, n, "never n > 9000")), "160 0 false 4096 2048 0:", "160 0 false 4096 2048 0:")
}

// TestP22_2Errors: errors of search.New: nothing else is told.
func TestP22_2Errors(t *testing.T) {
	n := said(t, rich)
	for _, w := range append(wrongNets(t), wrongGoals(t)...) {
		for _, never := range []bool{false, true} {
			q := Question{never, w.g}
			want := fmt.Sprint(int(w.err), " 0 false 0 0 0:")
			areTold(t, w.n, Ask(w.n, q), want)
			// Ahead of a plan that is none.
			areTold(t, w.n, Ask(w.n, q, Way{Last: true, Fuel: 1}, Way{Plan: api.Plan{Lo: [][][]int{nil}}}), want, want)
			areTold(t, w.n, All(w.n, q, q), want, want)
		}
	}
	for _, p := range wrongPlans(t) {
		areTold(t, n, Ask(n, asked(t, n, "reach true"), Way{Plan: p}, Way{}, Way{Plan: p, Fuel: 1, Last: true}), "7 0 false 0 0 0:", "0 1 true 1 1 0: 0 end", "7 0 false 0 0 0:")
	}
	// A plan without rows has none that is wrong.
	areTold(t, n, Ask(n, asked(t, n, "reach true"), Way{Plan: api.Plan{Lo: [][][]int{}, Up: [][][]int{}}}), "0 1 true 1 1 0: 0 end")
	// A network that cannot begin: nothing is stored.
	n = said(t, "clock x; auto A { loc a inv x > 0; }")
	areTold(t, n, All(n, asked(t, n, "reach true"), asked(t, n, "never true")), "0 2 false 0 0 0:", "0 2 true 0 0 0:")
	// A goal of no part never holds.
	n = said(t, small)
	areTold(t, n, All(n, Question{}, Question{Never: true, Goal: api.Goal{}}), "0 2 false 2 2 0:", "0 2 true 2 2 0:")
}

// TestP22_2Plan: zones are made wider by the plan that is handed in; without rows by what the network and the goal name.
func TestP22_2Plan(t *testing.T) {
	n := said(t, "clock x, y; auto A { loc a inv x <= 1; loc b; edge a -> a when x == 1 do x := 0; edge a -> b when y > 30; }")
	q := asked(t, n, "reach A.b && y < 20")
	// Each round is a zone of its own, up to the number that y is held against.
	l := Ask(n, q, Way{}, Way{Plan: uniform(t, n, 1, 30)}, Way{Plan: uniform(t, n, 1, 60)}, Way{Plan: uniform(t, n, 1, 60), Last: true})
	if len(l) != 4 || textOf(n, l[0]) != textOf(n, l[1]) || l[0].Stored < 30 || l[2].Stored < l[0].Stored+30 || l[3].Stored < l[0].Stored+30 {
		t.Error(l)
	}
	for i, w := range []Way{{}, {Plan: uniform(t, n, 1, 30)}, {Plan: uniform(t, n, 1, 60)}, {Plan: uniform(t, n, 1, 60), Last: true}} {
		areTold(t, n, l[i:i+1], textOf(n, wantTold(n, q, w)))
	}
	q = asked(t, n, "reach A.a && y > 40")
	areTold(t, n, Ask(n, q, Way{})[:1], textOf(n, wantTold(n, q, Way{Plan: uniform(t, n, 1, 40)})))
	if a := Ask(n, q)[0]; len(a.Run.Steps) != 40 || a.Part != 0 {
		t.Error(a)
	}
}

// TestP22_2All: of each question what Ask tells of it by the zero Way.
func TestP22_2All(t *testing.T) {
	n := said(t, small)
	areTold(t, n, All(n))
	areTold(t, n, All(n, []Question{}...))
	l := []Question{asked(t, n, "reach A.b"), asked(t, n, "never A.b"), asked(t, n, "never A.a && x > 5"), {Goal: make(api.Goal, api.MaxGoal+1)}, asked(t, n, "reach A.b && x > 7"), {}, asked(t, n, "reach A.b")}
	areTold(t, n, All(n, l...), "0 1 true 2 2 0: 3 A.0, 0 end", "0 1 false 2 2 0: 3 A.0, 0 end", "0 2 true 2 2 0:", "6 0 false 0 0 0:", "0 1 true 2 2 0: 3 A.0, 22/3 end", "0 2 false 2 2 0:", "0 1 true 2 2 0: 3 A.0, 0 end")
	for _, q := range l {
		areTold(t, n, All(n, q), textOf(n, Ask(n, q)[0]))
	}
}

// TestP22_3Errors: check.Goal's error, whatever is told.
func TestP22_3Errors(t *testing.T) {
	for _, w := range append(wrongNets(t), wrongGoals(t)...) {
		for _, a := range []Told{{}, {Holds: true}, {Verdict: api.Reachable}, {Verdict: api.Unreachable, Holds: true}, {Verdict: 9, Holds: true}, {Errno: w.err}} {
			isErr(t, Check(w.n, Question{Goal: w.g}, a), w.err)
			isErr(t, Check(w.n, Question{Never: true, Goal: w.g}, a), w.err)
		}
	}
}

// TestP22_3Reachable: replay's error of the run; then the part's number, and Holds.
func TestP22_3Reachable(t *testing.T) {
	n := said(t, small)
	for _, never := range []bool{false, true} {
		q := Question{never, aim(t, n, "A.a && x > 5 || A.b && x <= 7")}
		good := Told{Verdict: api.Reachable, Holds: !never, Stored: 2, Pops: 2, Part: 1, Run: ran(t, n, "3 A.0\n0 end\n")}
		isErr(t, Check(n, q, good), api.OK)
		areTold(t, n, Ask(n, q), textOf(n, good))
		for _, w := range []struct {
			change func(a *Told)
			want   api.Errno
		}{
			// Fields of which nothing is asked.
			{func(a *Told) { a.Stored, a.Pops = -9, 99 }, api.OK},
			{func(a *Told) { a.Errno = api.ErrFuel }, api.OK},
			{func(a *Told) { a.Part = 0 }, api.OK},
			{func(a *Told) { a.Run = ran(t, n, "4 A.0\n7 end\n") }, api.OK},
			{func(a *Told) { a.Run.Last = ran(t, n, "1/2 end\n").Last }, api.OK},
			// The part, and Holds.
			{func(a *Told) { a.Part = 2 }, api.ErrGoal},
			{func(a *Told) { a.Part = -1 }, api.ErrGoal},
			{func(a *Told) { a.Part = math.MaxInt }, api.ErrGoal},
			{func(a *Told) { a.Part = math.MinInt }, api.ErrGoal},
			{func(a *Told) { a.Holds = !a.Holds }, api.ErrGoal},
			// The run: each of replay's errors.
			{func(a *Told) { a.Run = api.Run{} }, api.ErrDelay},
			{func(a *Told) { a.Run = ran(t, n, "0 end\n") }, api.ErrGoal},
			{func(a *Told) { a.Run.Last = ran(t, n, "8 end\n").Last }, api.ErrGoal},
			{func(a *Told) { a.Run.Last = api.Rat{Num: 2, Den: 2} }, api.ErrDelay},
			{func(a *Told) { a.Run.Steps[0].Delay.Num = -3 }, api.ErrDelay},
			{func(a *Told) { a.Run.Steps[0].Delay.Num = 2 }, api.ErrGuard},
			{func(a *Told) { a.Run.Steps[0].Delay.Num = 6 }, api.ErrInv},
			{func(a *Told) { a.Run.Steps[0].Move.Edge = 1 }, api.ErrMove},
			{func(a *Told) { a.Run.Steps = append(a.Run.Steps, a.Run.Steps[0]) }, api.ErrMove},
			{func(a *Told) { a.Run.Last.Num = math.MaxInt64; a.Run.Steps[0].Delay.Num = 1 }, api.ErrGuard},
			// Ahead of the part and of Holds.
			{func(a *Told) { a.Run.Steps[0].Delay.Num = 6; a.Part = 9; a.Holds = !a.Holds }, api.ErrInv},
			{func(a *Told) { a.Run.Steps[0].Move.Edge = 1; a.Holds = !a.Holds }, api.ErrMove},
			// Another verdict of it.
			{func(a *Told) { a.Verdict = api.Unreachable }, api.ErrGoal},
			{func(a *Told) { a.Verdict = api.Unreachable; a.Holds = !a.Holds }, api.ErrGoal},
			{func(a *Told) { a.Verdict = api.Unknown; a.Holds = true }, api.ErrForm},
			{func(a *Told) { a.Verdict = api.Unknown; a.Holds = false }, api.OK},
		} {
			a := good
			a.Run = run.Cut(good.Run, 9)
			w.change(&a)
			isErr(t, Check(n, q, a), w.want)
		}
		// A goal of no part has none that is told.
		isErr(t, Check(n, Question{Never: never}, good), api.ErrGoal)
	}
}

// TestP22_3Unreachable: Holds, and a run that is none.
func TestP22_3Unreachable(t *testing.T) {
	n := said(t, small)
	for _, never := range []bool{false, true} {
		q := Question{never, aim(t, n, "A.a && x > 5")}
		good := Told{Verdict: api.Unreachable, Holds: never, Stored: 2, Pops: 2}
		isErr(t, Check(n, q, good), api.OK)
		areTold(t, n, Ask(n, q), textOf(n, good))
		for _, w := range []struct {
			change func(a *Told)
			want   api.Errno
		}{
			{func(a *Told) { a.Stored, a.Pops, a.Part = -9, 99, 7 }, api.OK},
			{func(a *Told) { a.Errno = api.ErrFuel }, api.OK},
			{func(a *Told) { a.Run.Steps = []api.Step{} }, api.OK},
			{func(a *Told) { a.Holds = !a.Holds }, api.ErrGoal},
			{func(a *Told) { a.Run.Last.Den = 1 }, api.ErrGoal},
			{func(a *Told) { a.Run.Last.Num = 1 }, api.ErrGoal},
			{func(a *Told) { a.Run = ran(t, n, "0 end\n") }, api.ErrGoal},
			{func(a *Told) { a.Run.Steps = make([]api.Step, 1) }, api.ErrGoal},
			{func(a *Told) { a.Run = ran(t, n, "3 A.0\n0 end\n") }, api.ErrGoal},
			{func(a *Told) { a.Verdict = api.Reachable }, api.ErrDelay},
			{func(a *Told) { a.Verdict = api.Unknown; a.Holds = true }, api.ErrForm},
			{func(a *Told) { a.Verdict = api.Unknown; a.Holds = false }, api.OK},
		} {
			a := good
			w.change(&a)
			isErr(t, Check(n, q, a), w.want)
		}
	}
	// Whether it is so is not asked: that would be another search.
	isErr(t, Check(n, asked(t, n, "never A.b"), Told{Verdict: api.Unreachable, Holds: true}), api.OK)
}

// TestP22_3Others: Unknown, and verdicts that are none: ErrForm, if it is told that the question holds; nothing else is asked.
func TestP22_3Others(t *testing.T) {
	n := said(t, small)
	for _, q := range []Question{asked(t, n, "reach A.b"), asked(t, n, "never A.b"), {}} {
		for _, v := range []api.Verdict{api.Unknown, 3, 4, 255} {
			for _, a := range []Told{{}, {Errno: api.ErrZones, Stored: 4096, Pops: 9}, {Part: 9}, {Run: ran(t, n, "9 A.0\n0 end\n")}, {Part: -1, Run: api.Run{Steps: make([]api.Step, 2)}}} {
				a.Verdict = v
				isErr(t, Check(n, q, a), api.OK)
				a.Holds = true
				isErr(t, Check(n, q, a), api.ErrForm)
			}
		}
	}
}

// ran is the run that a text says, of a network.
func ran(t testing.TB, n api.Net, s string) api.Run {
	t.Helper()
	r, err, line := run.Parse(n, s)
	if err != api.OK {
		t.Fatal(s, err, line)
	}
	return r
}

// TestP3Lists: what is handed in stays as it is, spare room too; what is answered is the caller's.
func TestP3Lists(t *testing.T) {
	n := said(t, small)
	wide := append(aim(t, n, "A.a && x > 5 || A.b && x > 7"), api.Part{Test: []api.Node{{Op: api.True}}})
	q := Question{Goal: wide[:2]}
	ways := []Way{{}, {Last: true}, {Plan: uniform(t, n, 9)}, {Plan: uniform(t, n, 9)}, {Fuel: 7}}
	told := Ask(n, q)[0]
	before := fmt.Sprint(n, wide, ways, told)
	var answers []any
	for range 2 {
		one := Ask(n, q)
		each := Ask(n, q, ways[:4]...)
		all := All(n, q, q, Question{Never: true, Goal: wide[:1]})
		read, _, _ := Parse(n, "never A.a && x > 5 && 1 < 2 || A.b")
		Print(n, q)
		Check(n, q, told)
		answers = append(answers, one, each, all, read)
	}
	if shared(append(answers, n, wide, ways, told)...) {
		t.Error("shared")
	}
	for _, a := range answers {
		switch x := a.(type) {
		case []Told:
			for _, a := range x {
				clear(a.Run.Steps[:cap(a.Run.Steps)])
			}
			clear(x[:cap(x)])
		case Question:
			for _, p := range x.Goal {
				clear(p.Locs)
				clear(p.Guards)
				clear(p.Test)
			}
			clear(x.Goal)
		}
	}
	if fmt.Sprint(n, wide, ways, told) != before {
		t.Error("changed")
	}
	areTold(t, n, Ask(n, q), "0 1 true 2 2 1: 3 A.0, 22/3 end")
}

// TestP1Any: nothing panics, whatever it is given, and beside an error there is nothing.
func TestP1Any(t *testing.T) {
	r := source(14)
	wild := []int{math.MinInt, -1 << 32, -2, -1, 0, 0, 1, 1, 2, 3, 255, 1 << 32, math.MaxInt}
	any := func() int { return wild[r.IntN(len(wild))] }
	nets := slices.Repeat([]wrong{{n: said(t, small)}, {n: said(t, rich)}, {n: said(t, "auto A { loc a; }")}}, 9)
	nets = append(nets, wrongNets(t)...)
	goals := []api.Goal{nil, {}, {{}}, aim(t, said(t, rich), richGoal), aim(t, said(t, small), "A.b"), aim(t, said(t, small), "A.a && x > 5")}
	goals = slices.Repeat(goals, 5)
	for _, w := range wrongGoals(t) {
		goals = append(goals, w.g)
	}
	plans := append(slices.Repeat([]api.Plan{{}, uniform(t, said(t, rich), 20, 20), uniform(t, said(t, small), 9)}, 9), wrongPlans(t)...)
	texts := []string{"reach A.b", "never A.a && x > 5", "reach true", "never n < 3 || A.k"}
	counts, checks, verdicts := map[api.Errno]int{}, map[api.Errno]int{}, map[api.Verdict]int{}
	for range 4000 {
		n := nets[r.IntN(len(nets))].n
		q := Question{r.IntN(2) == 0, goals[r.IntN(len(goals))]}
		w := Way{r.IntN(2) == 0, plans[r.IntN(len(plans))], any()}
		l := Ask(n, q, w)
		a := l[0]
		if len(l) != 1 || a.Errno != api.OK && (a.Verdict != api.Unknown || a.Holds || a.Part != 0 || a.Run.Steps != nil || a.Run.Last != api.Rat{}) {
			t.Fatal(l)
		}
		if stopped := a.Errno == api.ErrFuel || a.Errno == api.ErrZones; a.Errno != api.OK && !stopped && (a.Stored != 0 || a.Pops != 0) {
			t.Fatal(a)
		}
		counts[a.Errno]++
		verdicts[a.Verdict]++
		a = Told{api.Errno(any()), api.Verdict(any()), r.IntN(2) == 0, any(), any(), any(), api.Run{Last: api.Rat{Num: int64(any()), Den: int64(any())}}}
		for range r.IntN(3) {
			a.Run.Steps = append(a.Run.Steps, api.Step{Delay: api.Rat{Num: int64(any()), Den: 1}, Move: api.Move{Auto: any() * r.IntN(2), Edge: any() * r.IntN(2), With: any() * r.IntN(2)}})
		}
		err := Check(n, q, a)
		if checks[err]++; check.Goal(n, q.Goal) != api.OK && err != check.Goal(n, q.Goal) {
			t.Fatal(err)
		}
		bytes := []byte(texts[r.IntN(len(texts))])
		bytes[r.IntN(len(bytes))] = byte(r.IntN(256))
		read, err, at := Parse(n, string(bytes))
		if at < 0 || at > len(bytes) || err == api.OK && at != 0 || err != api.OK && (read.Goal != nil || read.Never) {
			t.Fatal(read, err, at)
		}
		if text, err := Print(n, q); (err == api.OK) != (text != "") {
			t.Fatal(text, err)
		}
	}
	for _, err := range []api.Errno{api.OK, api.ErrForm, api.ErrFuel, api.ErrRange, api.ErrLoc} {
		if counts[err] < 30 {
			t.Error(err, counts)
		}
	}
	for _, err := range []api.Errno{api.OK, api.ErrForm, api.ErrGoal, api.ErrDelay, api.ErrMove} {
		if checks[err] < 10 {
			t.Error(err, checks)
		}
	}
	if verdicts[api.Reachable] < 100 || verdicts[api.Unreachable] < 100 {
		t.Error(verdicts)
	}
}
