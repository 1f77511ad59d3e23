package times

import (
	"cmp"
	"fmt"
	"math"
	"math/big"
	"math/rand/v2"
	"reflect"
	"slices"
	"strings"
	"testing"

	"gnomon/api"
	"gnomon/bound"
	"gnomon/check"
	"gnomon/expr"
	"gnomon/moves"
	"gnomon/parse"
	"gnomon/state"
)

func source(seed uint64) *rand.Rand { return rand.New(rand.NewPCG(19, seed)) }

// said is the network that a text says.
func said(t testing.TB, s string) api.Net {
	t.Helper()
	n, err, at := parse.Net(s)
	if err != api.OK {
		t.Fatal(s, err, at)
	}
	return n
}

// aim is the part of a goal that a text says.
func aim(t testing.TB, n api.Net, s string) api.Part {
	t.Helper()
	g, err, at := parse.Goal(n, s)
	if err != api.OK || len(g) != 1 {
		t.Fatal(s, err, at)
	}
	return g[0]
}

// edges are moves of the first automaton alone, by their edges' numbers.
func edges(numbers ...int) []api.Move {
	var l []api.Move
	for _, k := range numbers {
		l = append(l, api.Move{Edge: k})
	}
	return l
}

// system is differences by their text: 0-1<=-3 1-2<-7.
func system(t testing.TB, s string) []api.Diff {
	t.Helper()
	var l []api.Diff
	for _, word := range strings.Fields(s) {
		var d api.Diff
		at := strings.IndexAny(word, "<i")
		if at < 0 {
			t.Fatal(word)
		}
		if _, err := fmt.Sscanf(word[:at], "%d-%d", &d.I, &d.J); err != nil {
			t.Fatal(word, err)
		}
		b, err := bound.Parse(word[at:])
		if err != api.OK {
			t.Fatal(word, err)
		}
		d.Bound = b
		l = append(l, d)
	}
	return l
}

// textOf is the text of differences.
func textOf(l []api.Diff) string {
	var words []string
	for _, d := range l {
		words = append(words, fmt.Sprintf("%d-%d%s", d.I, d.J, bound.Print(d.Bound)))
	}
	return strings.Join(words, " ")
}

const small = "clock x; auto A { loc a inv x <= 5; loc b; edge a -> b when x >= 3 do x := 0; }"

// rich has something of everything.
const rich = `clock x, y; int n in 0 .. 3 := 0; int m in -9 .. 9 := 2; chan c, d;
	auto A {
		loc a inv x <= 5; loc b inv y < 7 && x >= 1; loc k committed;
		edge a -> b when x >= 3 && n < 3 sync c! do x := 1, n := n + 1, y := 2;
		edge a -> k when n == 0 && x > 1 do m := 0 - m, x := 7;
		edge k -> a do y := 0;
		edge b -> a when y == 4 sync d!;
	}
	auto B {
		loc a; loc u urgent inv y <= 6; loc b inv x <= 9;
		edge a -> u when y < 4 && m > 0 sync c? do m := m * 2, x := 3;
		edge u -> b when x >= 2;
		edge b -> a sync d? do y := 5, y := 1;
	}`

// richWay is a way of the rich network on which time may pass so.
func richWay() []api.Move {
	return []api.Move{{With: 2}, {Auto: 1, Edge: 1}, {Edge: 3, With: 2, Take: 2}, {With: 2}}
}

// fault is a network and a part, and their error.
type fault struct {
	n   api.Net
	g   api.Part
	err api.Errno
}

// wrongNets are networks that are not right, by each of the errors of chapters 10 and 12.
func wrongNets(t testing.TB) []fault {
	l := []fault{{err: api.ErrRange}, {n: api.Net{Clocks: []string{"x", "y"}}, err: api.ErrRange}}
	for _, c := range []struct {
		err    api.Errno
		change func(n *api.Net)
	}{
		{api.ErrRange, func(n *api.Net) { n.Autos[1].Locs = nil }},
		{api.ErrLong, func(n *api.Net) { n.Clocks = slices.Repeat(n.Clocks, 5) }},
		{api.ErrName, func(n *api.Net) { n.Autos[0].Name = "n" }},
		{api.ErrVar, func(n *api.Net) { n.Vars[0].Init = 4 }},
		{api.ErrLoc, func(n *api.Net) { n.Autos[0].Locs[2].Kind = 3 }},
		{api.ErrEdge, func(n *api.Net) { n.Autos[0].Edges[0].To = 3 }},
		{api.ErrClock, func(n *api.Net) { n.Autos[0].Locs[0].Inv[0].Clock = 3 }},
		{api.ErrForm, func(n *api.Net) { n.Autos[0].Edges[0].Guards[0].Cmp = 0 }},
		{api.ErrTest, func(n *api.Net) { n.Autos[0].Edges[0].Test = n.Autos[0].Edges[0].Test[1:] }},
		{api.ErrDiagonal, func(n *api.Net) { n.Autos[0].Edges[0].Guards[0].Other = 2 }},
		{api.ErrConst, func(n *api.Net) { n.Autos[1].Edges[1].Guards[0].N = api.MaxConst + 1 }},
		{api.ErrConst, func(n *api.Net) { n.Autos[0].Edges[2].Sets[0].N = -1 }},
	} {
		w := fault{said(t, rich), api.Part{}, c.err}
		c.change(&w.n)
		l = append(l, w)
	}
	for _, w := range l {
		if err := check.Net(w.n); err != w.err {
			t.Fatal(err, w.err)
		}
	}
	return l
}

// wrongParts are parts that are not right for the rich network, by each of their errors.
func wrongParts(t testing.TB) []fault {
	n := said(t, rich)
	var l []fault
	for _, c := range []struct {
		err    api.Errno
		change func(g *api.Part)
	}{
		{api.ErrLong, func(g *api.Part) { g.Locs = make([]api.At, api.MaxGoal+1) }},
		{api.ErrLong, func(g *api.Part) { g.Guards = make([]api.Guard, api.MaxGuards+1) }},
		{api.ErrLong, func(g *api.Part) { g.Test = make([]api.Node, api.MaxNodes+1) }},
		{api.ErrLoc, func(g *api.Part) { g.Locs[0].Loc = -1 }},
		{api.ErrLoc, func(g *api.Part) { g.Locs[1].Auto = 2 }},
		{api.ErrClock, func(g *api.Part) { g.Guards[0].Clock = 0 }},
		{api.ErrForm, func(g *api.Part) { g.Guards[0].Cmp = 6 }},
		{api.ErrTest, func(g *api.Part) { g.Test = g.Test[1:] }},
		{api.ErrDiagonal, func(g *api.Part) { g.Guards[0].Other = 2 }},
		{api.ErrConst, func(g *api.Part) { g.Guards[0].N = -1 }},
		{api.ErrConst, func(g *api.Part) { g.Guards[0].N = api.MaxConst + 1 }},
	} {
		w := fault{n, aim(t, n, "A.a && B.a && x >= 0 && n < 3"), c.err}
		c.change(&w.g)
		if err := check.Goal(n, api.Goal{w.g}); err != c.err {
			t.Fatal(err, c.err)
		}
		l = append(l, w)
	}
	return l
}

// table is bounds of all differences of points, in units; the greatest number: none.
type table [][]int64

func tableOf(n int) table {
	l := make(table, n)
	for i := range l {
		l[i] = slices.Repeat([]int64{math.MaxInt64}, n)
		l[i][i] = 0
	}
	return l
}

func (l table) bound(i, j int, units int64) { l[i][j] = min(l[i][j], units) }

// close is the strictest bounds that follow; false: no points keep them.
func (l table) close() bool {
	for k := range l {
		for i := range l {
			for j := range l {
				if a, b := l[i][k], l[k][j]; a != math.MaxInt64 && b != math.MaxInt64 {
					l.bound(i, j, a+b)
				}
			}
		}
	}
	for i := range l {
		if l[i][i] < 0 {
			return false
		}
	}
	return true
}

// units is a bound on a grid, by the words.
func units(b api.Bound, grid int64) int64 {
	if b == api.Inf {
		return math.MaxInt64
	}
	v := (int64(b) - int64(b&1)) / 2
	return v*grid - 1 + int64(b&1)
}

// bounded is the table of a system on a grid, all points from 0 to end (below 0: without an end).
func bounded(n int, l []api.Diff, grid, end int64) table {
	all := tableOf(n)
	for _, d := range l {
		all.bound(d.I, d.J, units(d.Bound, grid))
	}
	for i := range n {
		all.bound(0, i, 0)
		if end >= 0 {
			all.bound(i, 0, end)
		}
	}
	return all
}

// wantLeast is the least points another way: by all bounds that follow.
func wantLeast(n int, l []api.Diff) ([]int64, bool) {
	all := bounded(n, l, int64(n), -1)
	if !all.close() {
		return nil, false
	}
	var t []int64
	for i := range n {
		t = append(t, -all[0][i])
	}
	return t, true
}

// wantGreatest is the greatest points likewise.
func wantGreatest(n int, l []api.Diff, end int64) ([]int64, bool) {
	all := bounded(n, l, int64(n), end)
	if !all.close() {
		return nil, false
	}
	var t []int64
	for i := range n {
		t = append(t, all[i][0])
	}
	return t, true
}

// hasFractions tells whether any fractions keep a system: no circle of differences comes to less than 0, or to less than just 0.
func hasFractions(n int, l []api.Diff) bool {
	// On a grid so fine that no circle's less-than bounds together come to one.
	all := bounded(n, l, 1<<20, -1)
	return all.close()
}

// keepsOnGrid tells by the words whether points keep a system on its grid.
func keepsOnGrid(t []int64, l []api.Diff) bool {
	for _, d := range l {
		if u := units(d.Bound, int64(len(t))); u != math.MaxInt64 && t[d.I]-t[d.J] > u {
			return false
		}
	}
	return t[0] == 0 && slices.Min(t) >= 0
}

// someSystem is a system of differences at random; with kept, of such as some fractions keep.
func someSystem(r *rand.Rand, n, many, top int, kept bool) []api.Diff {
	const den = 7 * 11
	at := make([]int64, n)
	for i := 1; i < n; i++ {
		at[i] = int64(r.IntN(top*den + 1))
	}
	var l []api.Diff
	for range many {
		d := api.Diff{I: r.IntN(n), J: r.IntN(n), Bound: api.Bound(r.IntN(4*top+2) - 2*top)}
		if kept {
			d.Bound = strictest(at[d.I]-at[d.J], den) + api.Bound(r.IntN(2)*r.IntN(4))
		}
		if r.IntN(20) == 0 {
			d.Bound = api.Inf
		}
		l = append(l, d)
	}
	return l
}

// strictest is the strictest bound that a fraction keeps.
func strictest(num, den int64) api.Bound {
	v := num / den
	if num%den < 0 {
		v--
	}
	if num%den == 0 {
		return api.Bound(2*v + 1)
	}
	return api.Bound(2 * (v + 1))
}

func someGuards(r *rand.Rand, clocks, top int) []api.Guard {
	var l []api.Guard
	for range r.IntN(3) {
		if clocks > 0 {
			l = append(l, api.Guard{Clock: 1 + r.IntN(clocks), Cmp: api.Cmp(1 + r.IntN(5)), N: r.IntN(top + 1)})
		}
	}
	return l
}

func someEdge(r *rand.Rand, n api.Net, locs, top int) api.Edge {
	e := api.Edge{From: r.IntN(locs), To: r.IntN(locs), Guards: someGuards(r, len(n.Clocks), top), Chan: r.IntN(len(n.Chans) + 1)}
	e.Send = e.Chan > 0 && r.IntN(2) == 0
	for range r.IntN(3) {
		if len(n.Clocks) > 0 {
			e.Sets = append(e.Sets, api.Set{Clock: 1 + r.IntN(len(n.Clocks)), N: r.IntN(top+1) * r.IntN(2)})
		}
	}
	if len(n.Vars) > 0 && r.IntN(3) == 0 {
		v := r.IntN(len(n.Vars))
		e.Sets = append(e.Sets, api.Set{Var: v, Expr: []api.Node{{Op: api.Add}, {Op: api.Var, N: v}, {Op: api.Num, N: 1}}})
		e.Test = []api.Node{{Op: api.Less}, {Op: api.Var, N: v}, {Op: api.Num, N: 1 + r.IntN(2)}}
	}
	return e
}

// someNet is a right network with so many clocks, whose numbers are at most top.
func someNet(r *rand.Rand, clocks, top int) api.Net {
	n := api.Net{Clocks: []string{"x", "y", "z", "w"}[:clocks], Chans: []string{"c", "d"}[:r.IntN(3)]}
	for _, name := range []string{"n", "m"}[:r.IntN(3)] {
		n.Vars = append(n.Vars, api.Variable{Name: name, Hi: 2})
	}
	for _, name := range []string{"A", "B", "C"}[:1+r.IntN(3)] {
		a := api.Auto{Name: name}
		for i := range 1 + r.IntN(3) {
			a.Locs = append(a.Locs, api.Loc{Name: fmt.Sprint("l", i), Kind: api.LocKind(max(0, r.IntN(12)-9))})
			if r.IntN(3) == 0 {
				a.Locs[i].Inv = someGuards(r, clocks, top)
			}
		}
		for range 2 + r.IntN(6) {
			a.Edges = append(a.Edges, someEdge(r, n, len(a.Locs), top))
		}
		n.Autos = append(n.Autos, a)
	}
	return n
}

// somePart is a right part of a goal, that mostly holds of a state.
func somePart(r *rand.Rand, n api.Net, s api.State, top int) api.Part {
	p := api.Part{Guards: someGuards(r, len(n.Clocks), top)}
	for i, a := range n.Autos {
		switch r.IntN(20) {
		case 0:
			p.Locs = append(p.Locs, api.At{Auto: i, Loc: r.IntN(len(a.Locs))})
		case 1, 2, 3, 4:
			p.Locs = append(p.Locs, api.At{Auto: i, Loc: s.Locs[i]})
		}
	}
	if len(n.Vars) > 0 && r.IntN(4) == 0 {
		p.Test = []api.Node{{Op: api.AtMost}, {Op: api.Var}, {Op: api.Num, N: r.IntN(3)}}
	}
	return p
}

// someWay is a way that can be done, as far as time is not asked for; most of its moves can be done in time, where such are there.
func someWay(r *rand.Rand, n api.Net, most int) []api.Move {
	s, _ := state.First(n)
	var way []api.Move
	for range r.IntN(most + 1) {
		l := moves.Enabled(n, s)
		if len(l) == 0 {
			break
		}
		m := l[r.IntN(len(l))]
		for range r.IntN(12) {
			next := append(slices.Clone(way), m)
			if hasFractions(len(next)+2, wantDiffs(n, next, api.Part{})) {
				break
			}
			m = l[r.IntN(len(l))]
		}
		way = append(way, m)
		s, _ = moves.After(n, s, m)
	}
	return way
}

// lastState is the state behind a way that can be done.
func lastState(n api.Net, way []api.Move) api.State {
	s, _ := state.First(n)
	for _, m := range way {
		s, _ = moves.After(n, s, m)
	}
	return s
}

// edgesOf are the edges of a move, the sender's first.
func edgesOf(n api.Net, m api.Move) []api.Edge {
	l := []api.Edge{n.Autos[m.Auto].Edges[m.Edge]}
	if m.With > 0 {
		l = append(l, n.Autos[m.With-1].Edges[m.Take])
	}
	return l
}

func invariantsOf(n api.Net, s api.State) []api.Guard {
	var l []api.Guard
	for i, a := range n.Autos {
		l = append(l, a.Locs[s.Locs[i]].Inv...)
	}
	return l
}

func mayPass(n api.Net, s api.State) bool {
	for i, a := range n.Autos {
		if a.Locs[s.Locs[i]].Kind != api.Plain {
			return false
		}
	}
	return true
}

// setLast is the point at which a clock was set last by the moves of a way, from its end on, and to what.
func setLast(n api.Net, way []api.Move, clock int) (int, int) {
	for p := len(way); p > 0; p-- {
		l := edgesOf(n, way[p-1])
		for e := len(l) - 1; e >= 0; e-- {
			for _, s := range slices.Backward(l[e].Sets) {
				if s.Clock == clock {
					return p, s.N
				}
			}
		}
	}
	return 0, 0
}

// guardDiffs are the differences of guards at a point, behind the moves of a way.
func guardDiffs(n api.Net, p int, way []api.Move, guards []api.Guard) []api.Diff {
	var l []api.Diff
	for _, g := range guards {
		r, c := setLast(n, way, g.Clock)
		if g.Cmp == api.Lt || g.Cmp == api.Le || g.Cmp == api.Eq {
			l = append(l, api.Diff{I: p, J: r, Bound: api.Bound(2 * (g.N - c))})
			if g.Cmp != api.Lt {
				l[len(l)-1].Bound++
			}
		}
		if g.Cmp == api.Gt || g.Cmp == api.Ge || g.Cmp == api.Eq {
			l = append(l, api.Diff{I: r, J: p, Bound: api.Bound(2 * (c - g.N))})
			if g.Cmp != api.Gt {
				l[len(l)-1].Bound++
			}
		}
	}
	return l
}

// wantDiffs are the differences of a way that can be done, by the words: each clock's last set is looked for anew.
func wantDiffs(n api.Net, way []api.Move, g api.Part) []api.Diff {
	s, _ := state.First(n)
	l := guardDiffs(n, 0, nil, invariantsOf(n, s))
	for p := 1; p <= len(way)+1; p++ {
		ahead := way[:p-1]
		l = append(l, api.Diff{I: p - 1, J: p, Bound: 1})
		if !mayPass(n, s) {
			l = append(l, api.Diff{I: p, J: p - 1, Bound: 1})
		}
		l = append(l, guardDiffs(n, p, ahead, invariantsOf(n, s))...)
		if p > len(way) {
			return append(l, guardDiffs(n, p, ahead, g.Guards)...)
		}
		for _, e := range edgesOf(n, way[p-1]) {
			l = append(l, guardDiffs(n, p, ahead, e.Guards)...)
		}
		s, _ = moves.After(n, s, way[p-1])
		l = append(l, guardDiffs(n, p, way[:p], invariantsOf(n, s))...)
	}
	return l
}

// configuration is a state with a valuation, by the words of DOC.md.
type configuration struct {
	n      api.Net
	s      api.State
	clocks []*big.Rat
}

func begin(n api.Net) *configuration {
	s, _ := state.First(n)
	c := &configuration{n, s, nil}
	for range n.Clocks {
		c.clocks = append(c.clocks, new(big.Rat))
	}
	return c
}

func (c *configuration) keeps(guards []api.Guard) bool {
	for _, g := range guards {
		side := c.clocks[g.Clock-1].Cmp(big.NewRat(int64(g.N), 1))
		if !map[api.Cmp]bool{api.Lt: side < 0, api.Le: side <= 0, api.Eq: side == 0, api.Ge: side >= 0, api.Gt: side > 0}[g.Cmp] {
			return false
		}
	}
	return true
}

func (c *configuration) stands() bool { return c.keeps(invariantsOf(c.n, c.s)) }

// wait lets time pass; false: it may not.
func (c *configuration) wait(d api.Rat) bool {
	if d.Den < 1 || d.Num < 0 || d.Num > 0 && !mayPass(c.n, c.s) {
		return false
	}
	for _, x := range c.clocks {
		x.Add(x, big.NewRat(d.Num, d.Den))
	}
	return c.stands()
}

// do does a move; false: it can't be done.
func (c *configuration) do(m api.Move) bool {
	next, err := moves.After(c.n, c.s, m)
	if err != api.OK {
		return false
	}
	for _, e := range edgesOf(c.n, m) {
		if !c.keeps(e.Guards) {
			return false
		}
	}
	for _, e := range edgesOf(c.n, m) {
		for _, s := range e.Sets {
			if s.Clock > 0 {
				c.clocks[s.Clock-1].SetInt64(int64(s.N))
			}
		}
	}
	c.s = next
	return c.stands()
}

func (c *configuration) meets(g api.Part) bool {
	for _, at := range g.Locs {
		if c.s.Locs[at.Auto] != at.Loc {
			return false
		}
	}
	holds, err := expr.Holds(g.Test, c.s.Vars)
	return err == api.OK && holds && c.keeps(g.Guards)
}

// replays tells whether a run can be done from the beginning on, and reaches a part.
func replays(n api.Net, r api.Run, g api.Part) bool {
	c := begin(n)
	if !c.stands() {
		return false
	}
	for _, s := range r.Steps {
		if !c.wait(s.Delay) || !c.do(s.Move) {
			return false
		}
	}
	return c.wait(r.Last) && c.meets(g)
}

// memory is a piece of memory that a list has, its spare room included.
type memory struct{ from, to uintptr }

// memories are those of all lists of a value.
func memories(v reflect.Value) []memory {
	var l []memory
	switch v.Kind() {
	case reflect.Slice:
		if v.Cap() > 0 {
			l = append(l, memory{v.Pointer(), v.Pointer() + uintptr(v.Cap())*v.Type().Elem().Size()})
		}
		for i := range v.Len() {
			l = append(l, memories(v.Index(i))...)
		}
	case reflect.Struct:
		for i := range v.NumField() {
			l = append(l, memories(v.Field(i))...)
		}
	}
	return l
}

// shared tells whether two of the lists of some values lie in one another.
func shared(values ...any) bool {
	var l []memory
	for _, v := range values {
		l = append(l, memories(reflect.ValueOf(v))...)
	}
	slices.SortFunc(l, func(a, b memory) int { return cmp.Compare(a.from, b.from) })
	for i := 1; i < len(l); i++ {
		if l[i].from < l[i-1].to {
			return true
		}
	}
	return false
}
