package trace

import (
	"cmp"
	"fmt"
	"math"
	"math/rand/v2"
	"reflect"
	"slices"
	"testing"

	"gnomon/api"
	"gnomon/check"
	"gnomon/dbm"
	"gnomon/moves"
	"gnomon/ops"
	"gnomon/parse"
	"gnomon/search"
	"gnomon/state"
)

func source(seed uint64) *rand.Rand { return rand.New(rand.NewPCG(18, seed)) }

// said is the network that a text says.
func said(t testing.TB, s string) api.Net {
	t.Helper()
	n, err, at := parse.Net(s)
	if err != api.OK {
		t.Fatal(s, err, at)
	}
	return n
}

// aim is the goal that a text says; of no text that of no part.
func aim(t testing.TB, n api.Net, s string) api.Goal {
	t.Helper()
	if s == "" {
		return nil
	}
	g, err, at := parse.Goal(n, s)
	if err != api.OK {
		t.Fatal(s, err, at)
	}
	return g
}

// edges are moves of the first automaton alone, by their edges' numbers.
func edges(numbers ...int) []api.Move {
	var l []api.Move
	for _, k := range numbers {
		l = append(l, api.Move{Edge: k})
	}
	return l
}

const small = "clock x; auto A { loc a inv x <= 5; loc b; edge a -> b when x >= 3 do x := 0; }"

// rich has something of everything.
const rich = `clock x, y; int n in 0 .. 3 := 0; int m in -9 .. 9 := 2; chan c, d;
	auto A {
		loc a inv x <= 5; loc b inv y < 7 && x >= 1; loc k committed;
		edge a -> b when x >= 3 && n < 3 sync c! do x := 1, n := n + 1, y := 2;
		edge a -> k when n == 0 && x > 1 do m := 0 - m, x := 7;
		edge k -> a do y := 0;
		edge b -> a when y == 4 sync d!;
	}
	auto B {
		loc a; loc u urgent inv y <= 6; loc b inv x <= 9;
		edge a -> u when y < 4 && m > 0 sync c? do m := m * 2, x := 3;
		edge u -> b when x >= 2;
		edge b -> a sync d? do y := 5, y := 1;
	}`

// richGoal has parts of all kinds.
const richGoal = "A.b && B.b && y > 12 || x >= 20 && n == 2 || A.k && m < 0 && n > 0"

// richWay is a way of the rich network on which time may pass so.
func richWay() []api.Move {
	return []api.Move{{With: 2}, {Auto: 1, Edge: 1}, {Edge: 3, With: 2, Take: 2}, {With: 2}}
}

// ticking counts rounds by y, that is never set back, as great as they may be: exactly, at least, at most so long; and leaves.
const ticking = `clock x, y; auto A {
		loc a; loc b; loc c inv x <= 1048576;
		edge a -> a when x == 1048576 do x := 0;
		edge a -> a when x >= 1048576 do x := 0;
		edge a -> a when x == 1048576 && y <= 5 do x := 0;
		edge a -> b;
		edge a -> c;
		edge c -> c do x := 0;
	}`

// fault is a network and a goal, and their error.
type fault struct {
	n   api.Net
	g   api.Goal
	err api.Errno
}

// wrongNets are networks that are not right, by each of the errors of chapters 10 and 12.
func wrongNets(t testing.TB) []fault {
	l := []fault{{err: api.ErrRange}, {n: api.Net{Clocks: []string{"x", "y"}}, err: api.ErrRange}}
	for _, c := range []struct {
		err    api.Errno
		change func(n *api.Net)
	}{
		{api.ErrRange, func(n *api.Net) { n.Autos[1].Locs = nil }},
		{api.ErrLong, func(n *api.Net) { n.Clocks = slices.Repeat(n.Clocks, 5) }},
		{api.ErrName, func(n *api.Net) { n.Autos[0].Name = "n" }},
		{api.ErrVar, func(n *api.Net) { n.Vars[0].Init = 4 }},
		{api.ErrLoc, func(n *api.Net) { n.Autos[0].Locs[2].Kind = 3 }},
		{api.ErrEdge, func(n *api.Net) { n.Autos[0].Edges[0].To = 3 }},
		{api.ErrClock, func(n *api.Net) { n.Autos[0].Locs[0].Inv[0].Clock = 3 }},
		{api.ErrForm, func(n *api.Net) { n.Autos[0].Edges[0].Guards[0].Cmp = 0 }},
		{api.ErrTest, func(n *api.Net) { n.Autos[0].Edges[0].Test = n.Autos[0].Edges[0].Test[1:] }},
		{api.ErrDiagonal, func(n *api.Net) { n.Autos[0].Edges[0].Guards[0].Other = 2 }},
		{api.ErrConst, func(n *api.Net) { n.Autos[1].Edges[1].Guards[0].N = api.MaxConst + 1 }},
		{api.ErrConst, func(n *api.Net) { n.Autos[0].Edges[2].Sets[0].N = -1 }},
	} {
		w := fault{said(t, rich), nil, c.err}
		c.change(&w.n)
		l = append(l, w)
	}
	for _, w := range l {
		if err := check.Net(w.n); err != w.err {
			t.Fatal(err, w.err)
		}
	}
	return l
}

// wrongGoals are goals that are not right for the rich network, by each of their errors.
func wrongGoals(t testing.TB) []fault {
	n := said(t, rich)
	var l []fault
	for _, c := range []struct {
		err    api.Errno
		change func(g *api.Goal)
	}{
		{api.ErrLong, func(g *api.Goal) { *g = make(api.Goal, api.MaxGoal+1) }},
		{api.ErrLoc, func(g *api.Goal) { (*g)[2].Locs[0].Loc = -1 }},
		{api.ErrClock, func(g *api.Goal) { (*g)[0].Guards[0].Clock = 0 }},
		{api.ErrForm, func(g *api.Goal) { (*g)[1].Guards[0].Cmp = 6 }},
		{api.ErrTest, func(g *api.Goal) { (*g)[2].Test = (*g)[2].Test[1:] }},
		{api.ErrDiagonal, func(g *api.Goal) { (*g)[1].Guards[0].Other = 2 }},
		{api.ErrConst, func(g *api.Goal) { (*g)[0].Guards[0].N = -1 }},
	} {
		w := fault{n, aim(t, n, richGoal), c.err}
		c.change(&w.g)
		if err := check.Goal(n, w.g); err != c.err {
			t.Fatal(err, c.err)
		}
		l = append(l, w)
	}
	return l
}

// wantZones are the zones of a way that is open, by the words, call by call.
func wantZones(n api.Net, way []api.Move) ([]*dbm.Zone, api.Errno) {
	s, _ := state.First(n)
	z, _ := dbm.Zero(len(n.Clocks))
	z, err := ops.Guards(z, invariantsOf(n, s)...)
	var l []*dbm.Zone
	for k := 0; err == api.OK; k++ {
		if mayPass(n, s) {
			if z, err = ops.Up(z); err == api.OK {
				z, err = ops.Guards(z, invariantsOf(n, s)...)
			}
		}
		if err != api.OK {
			break
		}
		if l = append(l, z); k == len(way) {
			return l, api.OK
		}
		if z, err = ops.Guards(z, guardsOf(n, way[k])...); err != api.OK {
			break
		}
		for _, x := range setsOf(n, way[k]) {
			z, _ = ops.Reset(z, x.Clock, x.N)
		}
		s, _ = moves.After(n, s, way[k])
		z, err = ops.Guards(z, invariantsOf(n, s)...)
	}
	return nil, err
}

// texts are the texts of zones.
func texts(l []*dbm.Zone) []string {
	var out []string
	for _, z := range l {
		out = append(out, z.Print())
	}
	return out
}

func someGuards(r *rand.Rand, clocks, top int) []api.Guard {
	var l []api.Guard
	for range r.IntN(3) {
		if clocks > 0 {
			l = append(l, api.Guard{Clock: 1 + r.IntN(clocks), Cmp: api.Cmp(1 + r.IntN(5)), N: r.IntN(top + 1)})
		}
	}
	return l
}

func someEdge(r *rand.Rand, n api.Net, locs, top int) api.Edge {
	e := api.Edge{From: r.IntN(locs), To: r.IntN(locs), Guards: someGuards(r, len(n.Clocks), top), Chan: r.IntN(len(n.Chans) + 1)}
	e.Send = e.Chan > 0 && r.IntN(2) == 0
	for range r.IntN(3) {
		if len(n.Clocks) > 0 {
			e.Sets = append(e.Sets, api.Set{Clock: 1 + r.IntN(len(n.Clocks)), N: r.IntN(top+1) * r.IntN(2)})
		}
	}
	if len(n.Vars) > 0 && r.IntN(3) == 0 {
		v := r.IntN(len(n.Vars))
		e.Sets = append(e.Sets, api.Set{Var: v, Expr: []api.Node{{Op: api.Add}, {Op: api.Var, N: v}, {Op: api.Num, N: 1}}})
	}
	return e
}

// someNet is a right network with so many clocks, whose numbers are at most top.
func someNet(r *rand.Rand, clocks, top int) api.Net {
	n := api.Net{Clocks: []string{"x", "y", "z", "w"}[:clocks], Chans: []string{"c", "d"}[:r.IntN(3)]}
	for _, name := range []string{"n", "m"}[:r.IntN(3)] {
		n.Vars = append(n.Vars, api.Variable{Name: name, Hi: 2})
	}
	for _, name := range []string{"A", "B", "C"}[:1+r.IntN(3)] {
		a := api.Auto{Name: name}
		for i := range 1 + r.IntN(3) {
			a.Locs = append(a.Locs, api.Loc{Name: fmt.Sprint("l", i), Kind: api.LocKind(max(0, r.IntN(12)-9))})
			if r.IntN(3) == 0 {
				a.Locs[i].Inv = someGuards(r, clocks, top)
			}
		}
		for range 2 + r.IntN(6) {
			a.Edges = append(a.Edges, someEdge(r, n, len(a.Locs), top))
		}
		n.Autos = append(n.Autos, a)
	}
	return n
}

// someGoal is a right goal of few parts, or of none.
func someGoal(r *rand.Rand, n api.Net, top int) api.Goal {
	var g api.Goal
	for range r.IntN(4) {
		p := api.Part{Guards: append(someGuards(r, len(n.Clocks), top), someGuards(r, len(n.Clocks), top)...)}
		for i, a := range n.Autos {
			if r.IntN(3) == 0 {
				p.Locs = append(p.Locs, api.At{Auto: i, Loc: r.IntN(len(a.Locs))})
			}
		}
		g = append(g, p)
	}
	return g
}

// someWay is a way that is open; most of its moves can be done in time, where such are there.
func someWay(r *rand.Rand, n api.Net, most int) []api.Move {
	s, _ := state.First(n)
	var way []api.Move
	for range r.IntN(most + 1) {
		l := moves.Enabled(n, s)
		if len(l) == 0 {
			break
		}
		m := l[r.IntN(len(l))]
		for range r.IntN(12) {
			if canRun(n, append(slices.Clone(way), m), nil) {
				break
			}
			m = l[r.IntN(len(l))]
		}
		way = append(way, m)
		s, _ = moves.After(n, s, m)
	}
	return way
}

// edgesOf are the edges of a move, the sender's first.
func edgesOf(n api.Net, m api.Move) []api.Edge {
	l := []api.Edge{n.Autos[m.Auto].Edges[m.Edge]}
	if m.With > 0 {
		l = append(l, n.Autos[m.With-1].Edges[m.Take])
	}
	return l
}

func guardsOf(n api.Net, m api.Move) []api.Guard {
	var l []api.Guard
	for _, e := range edgesOf(n, m) {
		l = append(l, e.Guards...)
	}
	return l
}

func setsOf(n api.Net, m api.Move) []api.Set {
	var l []api.Set
	for _, e := range edgesOf(n, m) {
		for _, s := range e.Sets {
			if s.Clock > 0 {
				l = append(l, s)
			}
		}
	}
	return l
}

func invariantsOf(n api.Net, s api.State) []api.Guard {
	var l []api.Guard
	for i, a := range n.Autos {
		l = append(l, a.Locs[s.Locs[i]].Inv...)
	}
	return l
}

func mayPass(n api.Net, s api.State) bool {
	for i, a := range n.Autos {
		if a.Locs[s.Locs[i]].Kind != api.Plain {
			return false
		}
	}
	return true
}

// times are bounds of differences of points of time, as numbers of the type Bound, in parts; the greatest number: none.
type times struct {
	parts int64 // of 1
	rows  [][]int64
}

func timesOf(points int, parts int64) times {
	l := times{parts, make([][]int64, points)}
	for i := range l.rows {
		l.rows[i] = slices.Repeat([]int64{math.MaxInt64}, points)
		l.rows[i][i] = 1
	}
	return l
}

func (l times) bound(i, j int, b int64) { l.rows[i][j] = min(l.rows[i][j], b) }

// guard bounds the time p by a guard of a clock that was set to c at r.
func (l times) guard(g api.Guard, p, r, c int) {
	n := 2 * l.parts * int64(g.N-c)
	switch g.Cmp {
	case api.Lt:
		l.bound(p, r, n)
	case api.Gt:
		l.bound(r, p, -n)
	}
	if g.Cmp == api.Le || g.Cmp == api.Eq {
		l.bound(p, r, n+1)
	}
	if g.Cmp == api.Ge || g.Cmp == api.Eq {
		l.bound(r, p, -n+1)
	}
}

// some tells whether points keep all bounds: no way round comes to less than 0.
func (l times) some() bool {
	for k := range l.rows {
		for i := range l.rows {
			for j := range l.rows {
				if a, b := l.rows[i][k], l.rows[k][j]; a != math.MaxInt64 && b != math.MaxInt64 {
					l.bound(i, j, a-a&1+b-b&1+a&b&1)
				}
			}
		}
	}
	for i := range l.rows {
		if l.rows[i][i] < 1 {
			return false
		}
	}
	return true
}

// place is a valuation in parts of 1/den, the number 0 first, which is 0.
type place struct {
	den int64
	at  []int64
}

func (p place) in(z *dbm.Zone) bool {
	side := len(p.at)
	for at, b := range z.Cells() {
		if b == api.Inf {
			continue
		}
		// By the words of DOC.md: a bound is 2 v + 1, or 2 v, which is not reached.
		if d := 2 * (p.at[at/side] - p.at[at%side]); d > (int64(b)-int64(b&1))*p.den || d == int64(b)*p.den {
			return false
		}
	}
	return z.Dim() == side-1
}

// canRun tells whether some run has the moves of a way that is open, and, if a place is handed in, leaves the clocks there: whether there are points of time for them that keep all that DOC.md asks.
func canRun(n api.Net, way []api.Move, end *place) bool {
	parts := int64(1)
	if end != nil {
		parts = end.den
	}
	l := timesOf(len(way)+2, parts)
	at, to := make([]int, len(n.Clocks)+1), make([]int, len(n.Clocks)+1)
	hold := func(p int, guards ...api.Guard) {
		for _, x := range guards {
			l.guard(x, p, at[x.Clock], to[x.Clock])
		}
	}
	s, _ := state.First(n)
	hold(0, invariantsOf(n, s)...)
	for p := 1; p <= len(way)+1; p++ {
		l.bound(p-1, p, 1)
		if !mayPass(n, s) {
			l.bound(p, p-1, 1)
		}
		hold(p, invariantsOf(n, s)...)
		if p > len(way) {
			break
		}
		hold(p, guardsOf(n, way[p-1])...)
		for _, x := range setsOf(n, way[p-1]) {
			at[x.Clock], to[x.Clock] = p, x.N
		}
		s, _ = moves.After(n, s, way[p-1])
		hold(p, invariantsOf(n, s)...)
	}
	for c := 1; c <= len(n.Clocks) && end != nil; c++ {
		d := 2 * (end.at[c] - parts*int64(to[c]))
		l.bound(len(way)+1, at[c], d+1)
		l.bound(at[c], len(way)+1, -d+1)
	}
	return l.some()
}

// rowOf is a row of nodes by their Parents; each has its number as its Move's Edge.
func rowOf(parents ...int) []search.Node {
	var l []search.Node
	for i, p := range parents {
		l = append(l, search.Node{Parent: p, Move: api.Move{Edge: i}})
	}
	return l
}

// memory is a piece of memory that a list has, its spare room included.
type memory struct{ from, to uintptr }

// memories are those of all lists of a value; zones do not change, so they are left out.
func memories(v reflect.Value) []memory {
	var l []memory
	switch v.Kind() {
	case reflect.Slice:
		if v.Cap() > 0 {
			l = append(l, memory{v.Pointer(), v.Pointer() + uintptr(v.Cap())*v.Type().Elem().Size()})
		}
		for i := range v.Len() {
			l = append(l, memories(v.Index(i))...)
		}
	case reflect.Struct:
		for i := range v.NumField() {
			l = append(l, memories(v.Field(i))...)
		}
	}
	return l
}

// shared tells whether two of the lists of some values lie in one another.
func shared(values ...any) bool {
	var l []memory
	for _, v := range values {
		l = append(l, memories(reflect.ValueOf(v))...)
	}
	slices.SortFunc(l, func(a, b memory) int { return cmp.Compare(a.from, b.from) })
	for i := 1; i < len(l); i++ {
		if l[i].from < l[i-1].to {
			return true
		}
	}
	return false
}
