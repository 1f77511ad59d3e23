package lu

import (
	"fmt"
	"math"
	"slices"
	"testing"

	"gnomon/api"
	"gnomon/check"
	"gnomon/net"
)

// TestP26Examples: that of the chapter.
func TestP26Examples(t *testing.T) {
	n := said(t, small)
	areNumbers(t, []int{3}, []int{5})(At(n, 0, 0))
	areNumbers(t, []int{-1}, []int{-1})(At(n, 0, 1))
	isPlan(t, [][][]int{{{3}, {-1}}}, [][][]int{{{5}, {-1}}})(Plan(n))
	g := aim(t, n, "x > 7")
	areNumbers(t, []int{7}, []int{5})(At(n, 0, 0, g))
	areNumbers(t, []int{7}, []int{-1})(At(n, 0, 1, g))
	isPlan(t, [][][]int{{{7}, {7}}}, [][][]int{{{5}, {-1}}})(Plan(n, g))
}

// TestP26_1At: of one automaton the numbers of the clocks x and y at each location.
func TestP26_1At(t *testing.T) {
	for _, w := range []struct {
		auto   string
		lo, up [][]int
	}{
		// By each sign, of an invariant, of an edge that leads from there; by nobody.
		{"loc a inv x < 4;", [][]int{{-1, -1}}, [][]int{{4, -1}}}, {"loc a inv x <= 4;", [][]int{{-1, -1}}, [][]int{{4, -1}}}, {"loc a inv x == 4;", [][]int{{4, -1}}, [][]int{{4, -1}}}, {"loc a inv y >= 4;", [][]int{{-1, 4}}, [][]int{{-1, -1}}}, {"loc a inv y > 4;", [][]int{{-1, 4}}, [][]int{{-1, -1}}},
		{"loc a; loc b; edge a -> b when x < 4;", [][]int{{-1, -1}, {-1, -1}}, [][]int{{4, -1}, {-1, -1}}}, {"loc a; loc b; edge a -> b when x <= 4;", [][]int{{-1, -1}, {-1, -1}}, [][]int{{4, -1}, {-1, -1}}}, {"loc a; loc b; edge a -> b when x == 4;", [][]int{{4, -1}, {-1, -1}}, [][]int{{4, -1}, {-1, -1}}}, {"loc a; loc b; edge b -> a when y >= 4;", [][]int{{-1, -1}, {-1, 4}}, [][]int{{-1, -1}, {-1, -1}}}, {"loc a; loc b; edge b -> a when y > 4;", [][]int{{-1, -1}, {-1, 4}}, [][]int{{-1, -1}, {-1, -1}}}, {"loc a; edge a -> a do x := 7;", [][]int{{-1, -1}}, [][]int{{-1, -1}}},
		// From both sides, and the greatest of several, wherever they stand; a number of 0 is one.
		{"loc a inv x < 4 && x >= 2 && x < 3 && y > 0;", [][]int{{2, 0}}, [][]int{{4, -1}}}, {"loc a inv x < 4 && x >= 9 && x == 6;", [][]int{{9, -1}}, [][]int{{6, -1}}}, {"loc a inv x <= 0; edge a -> a when x >= 0 && y == 0;", [][]int{{0, 0}}, [][]int{{0, 0}}}, {"loc a inv x <= 5; loc b; edge a -> b when x <= 3 && y > 2; edge a -> b when x <= 8 && y > 1;", [][]int{{-1, 2}, {-1, -1}}, [][]int{{8, -1}, {-1, -1}}}, {"loc a inv x <= 1048576 && y >= 1048576;", [][]int{{-1, api.MaxConst}}, [][]int{{api.MaxConst, -1}}},
		// A clock that an edge holds and sets is held.
		{"loc a; edge a -> a when x > 3 do x := 0;", [][]int{{3, -1}}, [][]int{{-1, -1}}},
		// Along several edges, in whatever order they stand; from below and above apart.
		{"loc a; loc b; loc c; loc d inv x < 3 && y > 1; edge a -> b; edge b -> c; edge c -> d;", [][]int{{-1, 1}, {-1, 1}, {-1, 1}, {-1, 1}}, [][]int{{3, -1}, {3, -1}, {3, -1}, {3, -1}}}, {"loc d inv x < 3; loc c inv x > 7; loc b inv x < 1; loc a; edge c -> d; edge b -> c; edge a -> b;", [][]int{{-1, -1}, {7, -1}, {7, -1}, {7, -1}}, [][]int{{3, -1}, {3, -1}, {3, -1}, {3, -1}}}, {"loc a; loc b inv x < 9; loc c inv x < 3; edge a -> b; edge b -> c;", [][]int{{-1, -1}, {-1, -1}, {-1, -1}}, [][]int{{9, -1}, {9, -1}, {3, -1}}}, {"loc a inv x < 2; loc b; loc c inv x < 6; loc d inv x < 4; edge a -> b; edge a -> d; edge b -> c;", [][]int{{-1, -1}, {-1, -1}, {-1, -1}, {-1, -1}}, [][]int{{6, -1}, {6, -1}, {6, -1}, {4, -1}}},
		// Not behind a set, whatever it is set to, and wherever it stands.
		{"loc a; loc b inv x < 3 && x > 1; edge a -> b do x := 0;", [][]int{{-1, -1}, {1, -1}}, [][]int{{-1, -1}, {3, -1}}}, {"loc a; loc b inv x < 3; edge a -> b do x := 9;", [][]int{{-1, -1}, {-1, -1}}, [][]int{{-1, -1}, {3, -1}}}, {"loc a; loc b inv x < 3 && y < 2; edge a -> b do n := 0, z := 0, x := 1;", [][]int{{-1, -1}, {-1, -1}}, [][]int{{-1, 2}, {3, 2}}}, {"loc a; loc b; loc c inv x < 3; edge a -> b; edge b -> c do x := 0;", [][]int{{-1, -1}, {-1, -1}, {-1, -1}}, [][]int{{-1, -1}, {-1, -1}, {3, -1}}}, {"loc a; loc b; loc c inv x < 3; edge a -> b do x := 0; edge b -> c;", [][]int{{-1, -1}, {-1, -1}, {-1, -1}}, [][]int{{-1, -1}, {3, -1}, {3, -1}}},
		// One of two edges sets it.
		{"loc a; loc b inv x < 3; edge a -> b do x := 0; edge a -> b;", [][]int{{-1, -1}, {-1, -1}}, [][]int{{3, -1}, {3, -1}}}, {"loc a; loc b inv x < 3; edge a -> b; edge a -> b do x := 0;", [][]int{{-1, -1}, {-1, -1}}, [][]int{{3, -1}, {3, -1}}}, {"loc a; loc b inv x < 3; loc c inv x < 2; edge a -> b do x := 0; edge a -> c;", [][]int{{-1, -1}, {-1, -1}, {-1, -1}}, [][]int{{2, -1}, {3, -1}, {2, -1}}},
		// Round circles.
		{"loc a; loc b; loc c; edge a -> b; edge b -> c; edge c -> a;", [][]int{{-1, -1}, {-1, -1}, {-1, -1}}, [][]int{{-1, -1}, {-1, -1}, {-1, -1}}}, {"loc a; loc b; loc c; edge a -> b when x > 1; edge b -> c when y < 4; edge c -> a;", [][]int{{1, -1}, {1, -1}, {1, -1}}, [][]int{{-1, 4}, {-1, 4}, {-1, 4}}}, {"loc a inv x < 1; loc b inv x < 2; loc c inv x < 3; edge a -> b; edge b -> c; edge c -> a;", [][]int{{-1, -1}, {-1, -1}, {-1, -1}}, [][]int{{3, -1}, {3, -1}, {3, -1}}}, {"loc a inv x < 1; loc b inv x < 2; loc c inv x < 3; edge a -> b; edge b -> c do x := 0; edge c -> a;", [][]int{{-1, -1}, {-1, -1}, {-1, -1}}, [][]int{{2, -1}, {2, -1}, {3, -1}}},
		// Back along edges only, not forward; locations that nothing leads to.
		{"loc a inv x < 3; loc b; edge a -> b;", [][]int{{-1, -1}, {-1, -1}}, [][]int{{3, -1}, {-1, -1}}}, {"loc a; loc b; loc c inv y > 0; loc d; edge d -> c;", [][]int{{-1, -1}, {-1, -1}, {-1, 0}, {-1, 0}}, [][]int{{-1, -1}, {-1, -1}, {-1, -1}, {-1, -1}}},
		// Tests, channels, kinds play no part, nor does it whether a guard ever holds.
		{"loc a urgent; loc b committed inv x < 0; edge a -> b when n < 0 sync c! do n := 2;", [][]int{{-1, -1}, {-1, -1}}, [][]int{{0, -1}, {0, -1}}}, {"loc a; loc b; edge a -> b when x < 0 && x > 7 && n == 4 sync c? do x := 0, n := 9;", [][]int{{7, -1}, {-1, -1}}, [][]int{{0, -1}, {-1, -1}}},
	} {
		for _, text := range []string{"clock x, y, z; int n in 0 .. 3 := 0; chan c; auto A { %s }", "clock x, y, z; int n in 0 .. 3 := 0; chan c; auto B { loc a inv x < 30 && y < 30 && z < 30; loc b; } auto A { %s } auto D { loc a; edge a -> a when x > 10 && y > 10 sync c? do x := 0, y := 0, z := 0; }"} {
			n := said(t, fmt.Sprintf(text, w.auto))
			// The other automata play no part.
			auto := min(1, len(n.Autos)-1)
			p, err := Plan(n)
			if err != api.OK || len(p.Lo) != len(n.Autos) || len(p.Up) != len(n.Autos) {
				t.Fatal(w, err)
			}
			for loc := range w.lo {
				lo, up := append(slices.Clone(w.lo[loc]), -1), append(slices.Clone(w.up[loc]), -1)
				areNumbers(t, lo, up)(At(n, auto, loc))
				areNumbers(t, lo, up)(At(n, auto, loc, nil, api.Goal{}, api.Goal{{}}))
				areNumbers(t, lo, up)(p.Lo[auto][loc], p.Up[auto][loc], api.OK)
				lo[2], up[2] = 6, 2
				areNumbers(t, lo, up)(At(n, auto, loc, aim(t, n, "z > 6 || z == 2")))
			}
			if t.Failed() {
				t.Fatal(w)
			}
		}
	}
}

// TestP26_1Most: as many clocks, locations and edges as may be.
func TestP26_1Most(t *testing.T) {
	for _, forward := range []bool{true, false} {
		text := "clock p, q, r, s, t, u, v, w; auto A {"
		for i := range api.MaxLocs {
			text += fmt.Sprintf("loc l%d inv p <= %d; ", i, i)
		}
		for i := range api.MaxLocs - 1 {
			from := i
			if !forward {
				from = api.MaxLocs - 2 - i
			}
			text += fmt.Sprintf("edge l%d -> l%d; ", from, from+1)
		}
		n := said(t, text+"edge l63 -> l63 when w > 3; }")
		p, err := Plan(n)
		if err != api.OK {
			t.Fatal(err)
		}
		for loc := range api.MaxLocs {
			areNumbers(t, []int{-1, -1, -1, -1, -1, -1, -1, 3}, []int{63, -1, -1, -1, -1, -1, -1, -1})(At(n, 0, loc))
			areNumbers(t, []int{-1, -1, -1, -1, -1, -1, -1, 3}, []int{63, -1, -1, -1, -1, -1, -1, -1})(p.Lo[0][loc], p.Up[0][loc], api.OK)
		}
	}
	// No clocks at all.
	n := said(t, "auto A { loc a; loc b; edge a -> b; } auto B { loc a; }")
	isPlan(t, [][][]int{{{}, {}}, {{}}}, [][][]int{{{}, {}}, {{}}})(Plan(n))
	isPlan(t, [][][]int{{{}, {}}, {{}}}, [][][]int{{{}, {}}, {{}}})(Plan(n, aim(t, n, "A.b"), aim(t, n, "true")))
	areNumbers(t, nil, nil)(At(n, 1, 0))
}

// TestP26_1Goals: of all goals, all parts, at every location, though sets stand in the way.
func TestP26_1Goals(t *testing.T) {
	n := said(t, "clock x, y, z; auto A { loc a; loc b inv y < 2; edge a -> b do x := 0, y := 0, z := 0; } auto B { loc a; }")
	g, h, k := aim(t, n, "A.b && x > 7"), aim(t, n, "A.a || B.a && z <= 1 && x == 2 || x < 1"), aim(t, n, "true")
	for _, w := range []struct {
		goals  []api.Goal
		lo, up []int
	}{
		{nil, []int{-1, -1, -1}, []int{-1, -1, -1}}, {[]api.Goal{k}, []int{-1, -1, -1}, []int{-1, -1, -1}}, {[]api.Goal{g}, []int{7, -1, -1}, []int{-1, -1, -1}}, {[]api.Goal{h}, []int{2, -1, -1}, []int{2, -1, 1}}, {[]api.Goal{g, h, k}, []int{7, -1, -1}, []int{2, -1, 1}}, {[]api.Goal{k, h, g}, []int{7, -1, -1}, []int{2, -1, 1}}, {[]api.Goal{nil, {}, h, h}, []int{2, -1, -1}, []int{2, -1, 1}},
	} {
		areNumbers(t, w.lo, w.up)(At(n, 0, 0, w.goals...))
		areNumbers(t, w.lo, w.up)(At(n, 1, 0, w.goals...))
		areNumbers(t, w.lo, []int{w.up[0], 2, w.up[2]})(At(n, 0, 1, w.goals...))
		isPlan(t, [][][]int{{w.lo, w.lo}, {w.lo}}, [][][]int{{w.up, {w.up[0], 2, w.up[2]}}, {w.up}})(Plan(n, w.goals...))
	}
}

// TestP26_1Loc: automata and locations that are none.
func TestP26_1Loc(t *testing.T) {
	n := said(t, rich)
	g := aim(t, n, richGoal)
	for _, w := range [][2]int{{2, 0}, {-1, 0}, {0, 3}, {0, -1}, {1, 3}, {2, 3}, {-1, -1}, {math.MaxInt, 0}, {math.MinInt, 0}, {0, math.MaxInt}, {1, math.MinInt}, {1 << 32, 0}, {0, 64}} {
		areNone(t, api.ErrLoc)(At(n, w[0], w[1]))
		areNone(t, api.ErrLoc)(At(n, w[0], w[1], g, nil))
	}
	areNumbers(t, []int{20, 12}, []int{9, -1})(At(n, 1, 2, g))
}

// TestP26_1Errors: networks, then goals, that are not right; the first goal that has an error; then all else.
func TestP26_1Errors(t *testing.T) {
	refused := func(err api.Errno, n api.Net, g ...api.Goal) {
		t.Helper()
		for _, at := range [][2]int{{0, 0}, {1, 2}, {9, 9}, {-1, 0}} {
			areNone(t, err)(At(n, at[0], at[1], g...))
		}
		isNoPlan(t, err)(Plan(n, g...))
	}
	n := said(t, rich)
	right, goals := aim(t, n, richGoal), wrongGoals(t)
	for _, w := range wrongNets(t) {
		refused(w.err, w.n)
		refused(w.err, w.n, nil, right)
		for _, x := range goals {
			refused(w.err, w.n, x.g)
		}
	}
	for i, w := range goals {
		other := goals[(i+1+i%3)%len(goals)]
		refused(w.err, n, w.g)
		refused(w.err, n, right, w.g)
		refused(w.err, n, nil, w.g, right)
		refused(w.err, n, w.g, other.g)
		refused(other.err, n, right, other.g, w.g)
	}
}

// TestP26_2Right: rows in each depth, in Lo and in Up apart; numbers at the ends of what may be, and beyond.
func TestP26_2Right(t *testing.T) {
	n := said(t, rich)
	p, err := Plan(n)
	if err != api.OK || !Right(n, p) || !Right(n, uniform(t, n)) {
		t.Fatal(p, err)
	}
	if Right(n, api.Plan{}) || Right(n, api.Plan{Lo: p.Lo}) || Right(n, api.Plan{Up: p.Up}) || Right(n, api.Plan{Lo: p.Lo, Up: [][][]int{}}) {
		t.Error("a plan without rows")
	}
	for _, side := range []func(*api.Plan) *[][][]int{func(p *api.Plan) *[][][]int { return &p.Lo }, func(p *api.Plan) *[][][]int { return &p.Up }} {
		for name, change := range map[string]func(table *[][][]int){
			"no automata":    func(l *[][][]int) { *l = nil },
			"an auto less":   func(l *[][][]int) { *l = (*l)[:1] },
			"an auto more":   func(l *[][][]int) { *l = append(*l, (*l)[0]) },
			"an empty auto":  func(l *[][][]int) { *l = append(*l, nil) },
			"no locations":   func(l *[][][]int) { (*l)[1] = nil },
			"a loc less":     func(l *[][][]int) { (*l)[0] = (*l)[0][:2] },
			"a loc more":     func(l *[][][]int) { (*l)[1] = append((*l)[1], []int{1, 1}) },
			"an empty loc":   func(l *[][][]int) { (*l)[0] = append((*l)[0], nil) },
			"no clocks":      func(l *[][][]int) { (*l)[1][2] = nil },
			"a clock less":   func(l *[][][]int) { (*l)[0][0] = (*l)[0][0][:1] },
			"a clock more":   func(l *[][][]int) { (*l)[1][2] = append((*l)[1][2], -1) },
			"a loc moved":    func(l *[][][]int) { (*l)[0], (*l)[1] = (*l)[0][:2], append((*l)[1], (*l)[0][2]) },
			"a clock moved":  func(l *[][][]int) { (*l)[0][0], (*l)[0][1] = []int{1}, []int{1, 2, 3} },
			"-2 at first":    func(l *[][][]int) { (*l)[0][0][0] = -2 },
			"-2 at last":     func(l *[][][]int) { (*l)[1][2][1] = -2 },
			"one too great":  func(l *[][][]int) { (*l)[0][2][0] = api.MaxConst + 1 },
			"far too great":  func(l *[][][]int) { (*l)[1][0][1] = math.MaxInt },
			"far too little": func(l *[][][]int) { (*l)[1][1][0] = math.MinInt },
			"32 bits":        func(l *[][][]int) { (*l)[0][1][0] = 1 << 32 },
		} {
			q := copied(p)
			change(side(&q))
			if Right(n, q) {
				t.Error(name, q)
			}
		}
	}
	for i := range numbers(p) {
		for number, want := range map[int]bool{-2: false, -1: true, 0: true, 1: true, api.MaxConst - 1: true, api.MaxConst: true, api.MaxConst + 1: false, math.MinInt: false, math.MaxInt: false} {
			q := copied(p)
			*numbers(q)[i] = number
			if Right(n, q) != want {
				t.Error(i, number)
			}
		}
	}
	// Networks that chapter 10 does not take have none; those that chapter 12 does not take have some.
	for _, w := range wrongNets(t) {
		if Right(w.n, p) != net.Right(w.n) || Right(w.n, p) != (w.err == api.ErrDiagonal || w.err == api.ErrConst) || Right(w.n, api.Plan{}) {
			t.Error(w.err)
		}
	}
	none := said(t, "auto A { loc a; loc b; } auto B { loc a; }")
	for _, w := range []struct {
		p    api.Plan
		want bool
	}{
		{api.Plan{Lo: [][][]int{{nil, nil}, {nil}}, Up: [][][]int{{nil, {}}, {{}}}}, true}, {api.Plan{Lo: [][][]int{{nil, nil}, {nil}}, Up: [][][]int{{nil}, {nil, nil}}}, false}, {api.Plan{Lo: [][][]int{nil, nil}, Up: [][][]int{nil, nil}}, false}, {api.Plan{Lo: [][][]int{{nil, nil}, {{1}}}, Up: [][][]int{{nil, nil}, {nil}}}, false},
	} {
		if Right(none, w.p) != w.want {
			t.Error(w)
		}
	}
}

// TestP26_2Join: none, one, several; unlike rows.
func TestP26_2Join(t *testing.T) {
	a := api.Plan{Lo: [][][]int{{{1, 5}, {-1, 0}}, {{7, 7}}}, Up: [][][]int{{{2, 2}, {2, 2}}, {{3, -1}}}}
	b := api.Plan{Lo: [][][]int{{{3, 4}, {-1, -1}}, {{7, 8}}}, Up: [][][]int{{{-1, 9}, {1, 3}}, {{0, 0}}}}
	c := api.Plan{Lo: [][][]int{{{0, 9}, {0, 0}}, {{0, 0}}}, Up: [][][]int{{{0, 0}, {0, 0}}, {{math.MaxInt, math.MinInt}}}}
	isPlan(t, a.Lo, a.Up)(Join(a))
	isPlan(t, a.Lo, a.Up)(Join(a, a, a))
	isPlan(t, [][][]int{{{3, 5}, {-1, 0}}, {{7, 8}}}, [][][]int{{{2, 9}, {2, 3}}, {{3, 0}}})(Join(a, b))
	isPlan(t, [][][]int{{{3, 5}, {-1, 0}}, {{7, 8}}}, [][][]int{{{2, 9}, {2, 3}}, {{3, 0}}})(Join(b, a))
	isPlan(t, [][][]int{{{3, 9}, {0, 0}}, {{7, 8}}}, [][][]int{{{2, 9}, {2, 3}}, {{math.MaxInt, 0}}})(Join(a, b, c))
	isPlan(t, [][][]int{{{3, 9}, {0, 0}}, {{7, 8}}}, [][][]int{{{2, 9}, {2, 3}}, {{math.MaxInt, 0}}})(Join(c, a, b, a))
	isPlan(t, nil, nil)(Join(api.Plan{}))
	isPlan(t, nil, nil)(Join(api.Plan{}, api.Plan{Lo: [][][]int{}}, api.Plan{Up: [][][]int{}}))
	// Numbers of all sizes, and rows that Lo has and Up has not, are joined all the same: plans need not be those of a network.
	isPlan(t, [][][]int{{{-5}}}, nil)(Join(api.Plan{Lo: [][][]int{{{math.MinInt}}}}, api.Plan{Lo: [][][]int{{{-5}}}}))
	isPlan(t, nil, [][][]int{{{-5}, {}}})(Join(api.Plan{Up: [][][]int{{{math.MinInt}, nil}}}, api.Plan{Up: [][][]int{{{-5}, {}}}}))
	for _, side := range []func(*api.Plan) *[][][]int{func(p *api.Plan) *[][][]int { return &p.Lo }, func(p *api.Plan) *[][][]int { return &p.Up }} {
		for name, change := range map[string]func(table *[][][]int){
			"no automata":   func(l *[][][]int) { *l = nil },
			"an auto less":  func(l *[][][]int) { *l = (*l)[:1] },
			"an auto more":  func(l *[][][]int) { *l = append(*l, nil) },
			"a loc less":    func(l *[][][]int) { (*l)[0] = (*l)[0][:1] },
			"a loc more":    func(l *[][][]int) { (*l)[1] = append((*l)[1], nil) },
			"a clock less":  func(l *[][][]int) { (*l)[1][0] = (*l)[1][0][:1] },
			"a clock more":  func(l *[][][]int) { (*l)[0][1] = append((*l)[0][1], 1) },
			"a loc moved":   func(l *[][][]int) { (*l)[0], (*l)[1] = (*l)[1], (*l)[0] },
			"a clock moved": func(l *[][][]int) { (*l)[0][0], (*l)[0][1] = []int{1}, []int{1, 2, 3} },
		} {
			q := copied(a)
			change(side(&q))
			for _, l := range [][]api.Plan{{a, q}, {q, a}, {a, b, q}, {a, q, b}, {q, q, a}, {a, a, a, q}} {
				isNoPlan(t, api.ErrLong)(Join(l[0], l[1:]...))
			}
			if isPlan(t, q.Lo, q.Up)(Join(q, q)); Wider(a, q) || Wider(q, a) || !Wider(q, q) || t.Failed() {
				t.Fatal(name)
			}
		}
	}
}

// TestP26_2Wider: like and unlike plans, one number after the other.
func TestP26_2Wider(t *testing.T) {
	a := api.Plan{Lo: [][][]int{{{1, 5}, {-1, 0}}, {{7, 7}}}, Up: [][][]int{{{2, 2}, {2, 2}}, {{3, -1}}}}
	if !Wider(a, a) || !Wider(a, copied(a)) || !Wider(api.Plan{}, api.Plan{}) || !Wider(api.Plan{Lo: [][][]int{}}, api.Plan{Up: [][][]int{}}) || Wider(a, api.Plan{}) || Wider(api.Plan{}, a) {
		t.Error("like and unlike")
	}
	for i := range numbers(a) {
		for _, more := range []int{1, 2, 1000, math.MaxInt - 8} {
			b := copied(a)
			*numbers(b)[i] += more
			if !Wider(a, b) || Wider(b, a) {
				t.Error(i, more)
			}
			// One number more, another one less: neither.
			j := (i + 5) % len(numbers(a))
			*numbers(b)[j]--
			if Wider(a, b) || Wider(b, a) {
				t.Error(i, j, more)
			}
		}
		b := copied(a)
		*numbers(b)[i] = math.MinInt
		if Wider(a, b) || !Wider(b, a) {
			t.Error(i)
		}
	}
	one := func(lo, up int) api.Plan { return api.Plan{Lo: [][][]int{{{lo}}}, Up: [][][]int{{{up}}}} }
	if !Wider(one(math.MinInt, math.MinInt), one(math.MaxInt, math.MaxInt)) || Wider(one(math.MaxInt, 0), one(math.MinInt, 0)) || Wider(one(0, math.MaxInt), one(0, math.MinInt)) {
		t.Error("ends")
	}
}

// TestP3Lists: what is handed in stays as it is, spare room too; what is answered is the caller's.
func TestP3Lists(t *testing.T) {
	n := said(t, rich)
	goals := append(make([]api.Goal, 0, 4), aim(t, n, "x > 3"), aim(t, n, richGoal))
	roomy := func() api.Plan {
		p := uniform(t, n)
		for _, table := range []*[][][]int{&p.Lo, &p.Up} {
			for i, rows := range *table {
				for j, row := range rows {
					rows[j] = append(row, 77, 77)[:len(row)]
				}
				(*table)[i] = append(rows, []int{77})[:len(rows)]
			}
			*table = append(*table, [][]int{{77}})[:len(*table)]
		}
		return p
	}
	plans := append(make([]api.Plan, 0, 4), roomy(), roomy())
	told := func() string {
		s := fmt.Sprint(n, goals[:cap(goals)], plans[:cap(plans)])
		for _, p := range plans {
			for _, table := range [][][][]int{p.Lo, p.Up} {
				for _, rows := range table[:cap(table)] {
					for _, row := range rows[:cap(rows)] {
						s += fmt.Sprint(row[:cap(row)])
					}
				}
			}
		}
		return s
	}
	before := told()
	var answers []any
	for range 2 {
		for _, g := range [][]api.Goal{nil, goals[:1], goals} {
			lo, up, _ := At(n, 0, 0, g...)
			p, _ := Plan(n, g...)
			answers = append(answers, lo, up, p)
		}
		for k := range 3 {
			p, err := Join(plans[0], plans[:k]...)
			if answers = append(answers, p); err != api.OK || !Wider(plans[0], p) || !Wider(p, plans[1]) || !Right(n, plans[0]) {
				t.Error(p, err)
			}
		}
	}
	if shared(append(answers, n, goals, plans)...) {
		t.Error("shared")
	}
	for _, a := range answers {
		switch x := a.(type) {
		case []int:
			clear(x[:cap(x)])
		case api.Plan:
			for _, table := range append(x.Lo, x.Up...) {
				for _, numbers := range table {
					clear(numbers[:cap(numbers)])
				}
			}
		}
	}
	if told() != before {
		t.Error("changed")
	}
	areNumbers(t, []int{4, 4}, []int{5, 4})(At(n, 0, 0, aim(t, n, "x == 4 || y == 4")))
}

// TestP1Any: nothing panics, whatever it is given, and beside an error there is nothing.
func TestP1Any(t *testing.T) {
	r := source(1)
	any := func() int { return wild[r.IntN(len(wild))] }
	var nets []api.Net
	for _, w := range wrongNets(t) {
		nets = append(nets, w.n)
	}
	nets = append(nets, said(t, small), said(t, "auto A { loc a; }"))
	nets = append(nets, slices.Repeat([]api.Net{said(t, rich)}, 20)...)
	goals := []api.Goal{nil, {}, {{}}, aim(t, said(t, rich), richGoal), make(api.Goal, api.MaxGoal+1)}
	for _, w := range wrongGoals(t) {
		goals = append(goals, nil, w.g)
	}
	table := func() [][][]int {
		var l [][][]int
		for range r.IntN(3) {
			var rows [][]int
			for range r.IntN(4) {
				var row []int
				for range r.IntN(3) {
					row = append(row, any())
				}
				rows = append(rows, row)
			}
			l = append(l, rows)
		}
		return l
	}
	counts, yes := map[api.Errno]int{}, map[bool]int{}
	for range 8000 {
		n := nets[r.IntN(len(nets))]
		var g []api.Goal
		for range r.IntN(3) {
			g = append(g, goals[r.IntN(len(goals))])
		}
		want := check.Net(n)
		for _, x := range g {
			if want == api.OK {
				want = check.Goal(n, x)
			}
		}
		lo, up, err := At(n, any(), any(), g...)
		if counts[err]++; err != api.OK && len(lo)+len(up) > 0 || want != api.OK && err != want || want == api.OK && err != api.OK && err != api.ErrLoc {
			t.Fatal(lo, up, err, want)
		}
		p, err := Plan(n, g...)
		if counts[err]++; err != want || (err == api.OK) != (len(p.Lo) > 0) || len(p.Lo) != len(p.Up) {
			t.Fatal(p, err, want)
		}
		a, b := api.Plan{Lo: table(), Up: table()}, api.Plan{Lo: table(), Up: table()}
		j, err := Join(a, b, a)
		same := Wider(filled(a, func() int { return 0 }), filled(b, func() int { return 0 }))
		if counts[err]++; err != api.OK && (err != api.ErrLong || len(j.Lo)+len(j.Up) > 0) || (err == api.OK) != same || same && !(Wider(a, j) && Wider(b, j)) {
			t.Fatal(a, b, j, err)
		}
		yes[Wider(a, b)]++
		yes[Right(n, a)]++
	}
	for _, err := range []api.Errno{api.OK, api.ErrLoc, api.ErrRange, api.ErrConst, api.ErrLong, api.ErrTest} {
		if counts[err] < 100 {
			t.Error(err, counts)
		}
	}
	if yes[true] < 50 || yes[false] < 1000 {
		t.Error(yes)
	}
}
