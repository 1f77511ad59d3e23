package lu

import (
	"cmp"
	"fmt"
	"math"
	"math/rand/v2"
	"reflect"
	"slices"
	"strings"
	"testing"

	"gnomon/api"
	"gnomon/check"
	"gnomon/parse"
	"gnomon/succ"
)

func source(seed uint64) *rand.Rand { return rand.New(rand.NewPCG(26, seed)) }

// wild are numbers of all sizes.
var wild = []int{0, 0, 1, 1, -1, 2, -2, 3, 7, 8, 9, 63, 64, 65, 255, 256, 1 << 31, -1 << 31, 1 << 32, math.MaxInt, math.MinInt}

// said is the network that a text says.
func said(t testing.TB, s string) api.Net {
	t.Helper()
	n, err, at := parse.Net(s)
	if err != api.OK {
		t.Fatal(s, err, at)
	}
	return n
}

// aim is the goal that a text says; of no text that of no part.
func aim(t testing.TB, n api.Net, s string) api.Goal {
	t.Helper()
	if s == "" {
		return nil
	}
	g, err, at := parse.Goal(n, s)
	if err != api.OK {
		t.Fatal(s, err, at)
	}
	return g
}

const small = "clock x; auto A { loc a inv x <= 5; loc b; edge a -> b when x >= 3 do x := 0; }"

// rich has something of everything.
const rich = `clock x, y; int n in 0 .. 3 := 0; int m in -9 .. 9 := 2; chan c, d;
	auto A {
		loc a inv x <= 5; loc b inv y < 7 && x >= 1; loc k committed;
		edge a -> b when x >= 3 && n < 3 sync c! do x := 1, n := n + 1, y := 2;
		edge a -> k when n == 0 && x > 1 do m := 0 - m, x := 7;
		edge k -> a do y := 0;
		edge b -> a when y == 4 sync d!;
	}
	auto B {
		loc a; loc u urgent inv y <= 6; loc b inv x <= 9;
		edge a -> u when y < 4 && m > 0 sync c? do m := m * 2, x := 3;
		edge u -> b when x >= 2;
		edge b -> a sync d? do y := 5, y := 1;
	}`

// richGoal has parts of all kinds.
const richGoal = "A.b && B.b && y > 12 || x >= 20 && n == 2 || A.k && m < 0 && n > 0"

// fault is a network and a goal, and their error.
type fault struct {
	n   api.Net
	g   api.Goal
	err api.Errno
}

// wrongNets are networks that are not right, by each of the errors of chapters 10 and 12.
func wrongNets(t testing.TB) []fault {
	l := []fault{{err: api.ErrRange}, {n: api.Net{Clocks: []string{"x", "y"}}, err: api.ErrRange}}
	for _, c := range []struct {
		err    api.Errno
		change func(n *api.Net)
	}{
		{api.ErrRange, func(n *api.Net) { n.Autos[1].Locs = nil }},
		{api.ErrLong, func(n *api.Net) { n.Clocks = slices.Repeat(n.Clocks, 5) }},
		{api.ErrName, func(n *api.Net) { n.Autos[0].Name = "n" }},
		{api.ErrVar, func(n *api.Net) { n.Vars[0].Init = 4 }},
		{api.ErrLoc, func(n *api.Net) { n.Autos[0].Locs[2].Kind = 3 }},
		{api.ErrEdge, func(n *api.Net) { n.Autos[0].Edges[0].To = 3 }},
		{api.ErrClock, func(n *api.Net) { n.Autos[0].Locs[0].Inv[0].Clock = 3 }},
		{api.ErrForm, func(n *api.Net) { n.Autos[0].Edges[0].Guards[0].Cmp = 0 }},
		{api.ErrTest, func(n *api.Net) { n.Autos[0].Edges[0].Test = n.Autos[0].Edges[0].Test[1:] }},
		{api.ErrDiagonal, func(n *api.Net) { n.Autos[0].Edges[0].Guards[0].Other = 2 }},
		{api.ErrConst, func(n *api.Net) { n.Autos[1].Edges[1].Guards[0].N = api.MaxConst + 1 }},
		{api.ErrConst, func(n *api.Net) { n.Autos[0].Edges[2].Sets[0].N = -1 }},
	} {
		w := fault{said(t, rich), nil, c.err}
		c.change(&w.n)
		l = append(l, w)
	}
	for _, w := range l {
		if err := check.Net(w.n); err != w.err {
			t.Fatal(err, w.err)
		}
	}
	return l
}

// wrongGoals are goals that are not right for the rich network, by each of their errors.
func wrongGoals(t testing.TB) []fault {
	n := said(t, rich)
	var l []fault
	for _, c := range []struct {
		err    api.Errno
		change func(g *api.Goal)
	}{
		{api.ErrLong, func(g *api.Goal) { *g = make(api.Goal, api.MaxGoal+1) }},
		{api.ErrLong, func(g *api.Goal) { (*g)[2].Locs = make([]api.At, api.MaxGoal+1) }},
		{api.ErrLoc, func(g *api.Goal) { (*g)[0].Locs[1].Auto = 2 }},
		{api.ErrLoc, func(g *api.Goal) { (*g)[2].Locs[0].Loc = -1 }},
		{api.ErrClock, func(g *api.Goal) { (*g)[0].Guards[0].Clock = 0 }},
		{api.ErrForm, func(g *api.Goal) { (*g)[1].Guards[0].Cmp = 6 }},
		{api.ErrTest, func(g *api.Goal) { (*g)[2].Test = (*g)[2].Test[1:] }},
		{api.ErrDiagonal, func(g *api.Goal) { (*g)[1].Guards[0].Other = 2 }},
		{api.ErrConst, func(g *api.Goal) { (*g)[0].Guards[0].N = -1 }},
		{api.ErrConst, func(g *api.Goal) { (*g)[1].Guards[0].N = api.MaxConst + 1 }},
	} {
		w := fault{n, aim(t, n, richGoal), c.err}
		c.change(&w.g)
		if err := check.Goal(n, w.g); err != c.err {
			t.Fatal(err, c.err)
		}
		l = append(l, w)
	}
	return l
}

// areNumbers holds an answer to numbers from below and from above.
func areNumbers(t testing.TB, wantLo, wantUp []int) func(lo, up []int, err api.Errno) {
	return func(lo, up []int, err api.Errno) {
		t.Helper()
		if err != api.OK || !slices.Equal(lo, wantLo) || !slices.Equal(up, wantUp) {
			t.Errorf("%v %v %d, not %v %v", lo, up, err, wantLo, wantUp)
		}
	}
}

// areNone holds an answer to an error.
func areNone(t testing.TB, want api.Errno) func(lo, up []int, err api.Errno) {
	return func(lo, up []int, err api.Errno) {
		t.Helper()
		if err != want || len(lo) != 0 || len(up) != 0 {
			t.Errorf("%v %v %d, not %d", lo, up, err, want)
		}
	}
}

// isPlan holds an answer to the rows of Lo and of Up.
func isPlan(t testing.TB, lo, up [][][]int) func(api.Plan, api.Errno) {
	return func(p api.Plan, err api.Errno) {
		t.Helper()
		if err != api.OK || fmt.Sprint(p.Lo) != fmt.Sprint(lo) || fmt.Sprint(p.Up) != fmt.Sprint(up) {
			t.Errorf("%v %d, not %v %v", p, err, lo, up)
		}
	}
}

// isNoPlan holds an answer to an error.
func isNoPlan(t testing.TB, want api.Errno) func(api.Plan, api.Errno) {
	return func(p api.Plan, err api.Errno) {
		t.Helper()
		if err != want || len(p.Lo) != 0 || len(p.Up) != 0 {
			t.Errorf("%v %d, not %d", p, err, want)
		}
	}
}

const (
	below = ">= > =="
	above = "<= < =="
)

// signs are the texts of comparisons, by their numbers.
var signs = []string{"", "<", "<=", "==", ">=", ">"}

// mostNamed is the greatest number that guards of a location, of the edges that lead from it, or of goals name for a clock, with one of some signs; -1: none.
func mostNamed(a api.Auto, loc, clock int, sides string, goals ...api.Goal) int {
	l := slices.Clone(a.Locs[loc].Inv)
	for _, e := range a.Edges {
		if e.From == loc {
			l = append(l, e.Guards...)
		}
	}
	for _, p := range slices.Concat(goals...) {
		l = append(l, p.Guards...)
	}
	most := -1
	for _, g := range l {
		if g.Clock == clock && slices.Contains(strings.Fields(sides), signs[g.Cmp]) {
			most = max(most, g.N)
		}
	}
	return most
}

// wantNumber is the number of a clock at a location: the greatest that is named where ways of edges that do not set the clock lead; they are gone forward, each location once.
func wantNumber(a api.Auto, loc, clock int, sides string, goals ...api.Goal) int {
	most, seen, queue := -1, map[int]bool{loc: true}, []int{loc}
	for i := 0; i < len(queue); i++ {
		most = max(most, mostNamed(a, queue[i], clock, sides, goals...))
		for _, e := range a.Edges {
			sets := slices.ContainsFunc(e.Sets, func(s api.Set) bool { return s.Clock == clock })
			if e.From == queue[i] && !sets && !seen[e.To] {
				seen[e.To] = true
				queue = append(queue, e.To)
			}
		}
	}
	return most
}

// wantNumbers are those of all clocks.
func wantNumbers(n api.Net, auto, loc int, sides string, goals ...api.Goal) []int {
	var l []int
	for clock := 1; clock <= len(n.Clocks); clock++ {
		l = append(l, wantNumber(n.Autos[auto], loc, clock, sides, goals...))
	}
	return l
}

// copied is a plan with lists of its own.
func copied(p api.Plan) api.Plan {
	table := func(t [][][]int) [][][]int {
		var l [][][]int
		for _, rows := range t {
			var m [][]int
			for _, row := range rows {
				m = append(m, slices.Clone(row))
			}
			l = append(l, m)
		}
		return l
	}
	return api.Plan{Lo: table(p.Lo), Up: table(p.Up)}
}

// numbers are places of all numbers of a plan, those of Lo first.
func numbers(p api.Plan) []*int {
	var l []*int
	for _, table := range [][][][]int{p.Lo, p.Up} {
		for _, row := range slices.Concat(table...) {
			for i := range row {
				l = append(l, &row[i])
			}
		}
	}
	return l
}

// filled is a plan with the rows of another one, and numbers that a function tells.
func filled(p api.Plan, next func() int) api.Plan {
	q := copied(p)
	for _, x := range numbers(q) {
		*x = next()
	}
	return q
}

func uniform(t testing.TB, n api.Net, g ...api.Goal) api.Plan {
	t.Helper()
	p, err := succ.Uniform(n, check.Max(n, g...))
	if err != api.OK {
		t.Fatal(err)
	}
	return p
}

func someGuards(r *rand.Rand, clocks, top int) []api.Guard {
	var l []api.Guard
	for range r.IntN(3) {
		if clocks > 0 {
			l = append(l, api.Guard{Clock: 1 + r.IntN(clocks), Cmp: api.Cmp(1 + r.IntN(5)), N: r.IntN(top + 1)})
		}
	}
	return l
}

func someEdge(r *rand.Rand, n api.Net, locs, top int) api.Edge {
	e := api.Edge{From: r.IntN(locs), To: r.IntN(locs), Guards: someGuards(r, len(n.Clocks), top), Chan: r.IntN(len(n.Chans) + 1)}
	e.Send = e.Chan > 0 && r.IntN(2) == 0
	for range r.IntN(3) {
		if len(n.Clocks) > 0 {
			// Now and then to more than any clock is held against.
			e.Sets = append(e.Sets, api.Set{Clock: 1 + r.IntN(len(n.Clocks)), N: r.IntN(top+3) * r.IntN(2)})
		}
	}
	if len(n.Vars) > 0 && r.IntN(2) == 0 {
		v := r.IntN(len(n.Vars))
		e.Sets = append(e.Sets, api.Set{Var: v, Expr: []api.Node{{Op: api.Add}, {Op: api.Var, N: v}, {Op: api.Num, N: 1}}})
		e.Test = []api.Node{{Op: api.Less}, {Op: api.Var}, {Op: api.Num, N: 1 + r.IntN(2)}}
	}
	return e
}

// someNet is a right network with so many clocks, whose guards' numbers are at most top.
func someNet(r *rand.Rand, clocks, top int) api.Net {
	n := api.Net{Clocks: []string{"x", "y", "z", "w"}[:clocks], Chans: []string{"c", "d"}[:r.IntN(3)]}
	for _, name := range []string{"n", "m"}[:r.IntN(3)] {
		n.Vars = append(n.Vars, api.Variable{Name: name, Hi: 2})
	}
	for _, name := range []string{"A", "B", "C"}[:1+r.IntN(3)] {
		a := api.Auto{Name: name}
		for i := range 1 + r.IntN(4) {
			a.Locs = append(a.Locs, api.Loc{Name: fmt.Sprint("l", i), Kind: api.LocKind(max(0, r.IntN(12)-9))})
			if r.IntN(5) == 0 {
				a.Locs[i].Inv = someGuards(r, clocks, top)
			}
		}
		for range 2 + r.IntN(6) {
			a.Edges = append(a.Edges, someEdge(r, n, len(a.Locs), top))
		}
		n.Autos = append(n.Autos, a)
	}
	return n
}

// someGoal is a right goal of few parts, or of none, that seldom holds at the beginning.
func someGoal(r *rand.Rand, n api.Net, top int) api.Goal {
	var g api.Goal
	for range r.IntN(4) {
		var p api.Part
		// Seldom, as what a goal names is active everywhere.
		if r.IntN(3) == 0 {
			p.Guards = someGuards(r, len(n.Clocks), top)
		}
		for i, a := range n.Autos {
			if r.IntN(4) > 0 {
				p.Locs = append(p.Locs, api.At{Auto: i, Loc: len(a.Locs) - 1 - r.IntN(2)*r.IntN(len(a.Locs))})
			}
		}
		if len(n.Vars) > 0 && r.IntN(3) > 0 {
			p.Test = []api.Node{{Op: api.Equal}, {Op: api.Var, N: r.IntN(len(n.Vars))}, {Op: api.Num, N: r.IntN(3)}}
		}
		g = append(g, p)
	}
	return g
}

// memory is a piece of memory that a list has, its spare room included.
type memory struct{ from, to uintptr }

// memories are those of all lists of a value.
func memories(v reflect.Value) []memory {
	var l []memory
	switch v.Kind() {
	case reflect.Slice:
		if v.Cap() > 0 {
			l = append(l, memory{v.Pointer(), v.Pointer() + uintptr(v.Cap())*v.Type().Elem().Size()})
		}
		for i := range v.Len() {
			l = append(l, memories(v.Index(i))...)
		}
	case reflect.Struct:
		for i := range v.NumField() {
			l = append(l, memories(v.Field(i))...)
		}
	}
	return l
}

// shared tells whether two of the lists of some values lie in one another.
func shared(values ...any) bool {
	var l []memory
	for _, v := range values {
		l = append(l, memories(reflect.ValueOf(v))...)
	}
	slices.SortFunc(l, func(a, b memory) int { return cmp.Compare(a.from, b.from) })
	for i := 1; i < len(l); i++ {
		if l[i].from < l[i-1].to {
			return true
		}
	}
	return false
}
