package succ

import (
	"cmp"
	"fmt"
	"math/rand/v2"
	"reflect"
	"slices"
	"testing"

	"gnomon/api"
	"gnomon/check"
	"gnomon/dbm"
	"gnomon/extra"
	"gnomon/moves"
	"gnomon/ops"
	"gnomon/parse"
)

func source(seed uint64) *rand.Rand { return rand.New(rand.NewPCG(15, seed)) }

// said is the network that a text says.
func said(t testing.TB, s string) api.Net {
	t.Helper()
	n, err, at := parse.Net(s)
	if err != api.OK {
		t.Fatal(s, err, at)
	}
	return n
}

// aim is the first part of the goal that a text says.
func aim(t testing.TB, n api.Net, s string) api.Part {
	t.Helper()
	g, err, at := parse.Goal(n, s)
	if err != api.OK || len(g) == 0 {
		t.Fatal(s, err, at)
	}
	return g[0]
}

func zone(t testing.TB, s string) *dbm.Zone {
	t.Helper()
	return must(t)(dbm.Parse(s))
}

func must(t testing.TB) func(*dbm.Zone, api.Errno) *dbm.Zone {
	return func(z *dbm.Zone, err api.Errno) *dbm.Zone {
		t.Helper()
		if z == nil || err != api.OK {
			t.Fatal(z.Print(), err)
		}
		return z
	}
}

// mustPlan takes a plan that a call answers without an error.
func mustPlan(t testing.TB) func(api.Plan, api.Errno) api.Plan {
	return func(p api.Plan, err api.Errno) api.Plan {
		t.Helper()
		if err != api.OK {
			t.Fatal(err)
		}
		return p
	}
}

func empty(t testing.TB, n int) *dbm.Zone {
	t.Helper()
	return must(t)(dbm.Limits(n, api.Limit{}))
}

func at(locs ...int) api.State { return api.State{Locs: locs} }

const small = "clock x; auto A { loc a inv x <= 5; loc b; edge a -> b when x >= 3 do x := 0; }"

// rich has something of everything.
const rich = `clock x, y; int n in 0 .. 3 := 0; int m in -9 .. 9 := 2; chan c, d;
	auto A {
		loc a inv x <= 5; loc b inv y < 7 && x >= 1; loc k committed;
		edge a -> b when x >= 3 && n < 3 sync c! do x := 1, n := n + 1, y := 2;
		edge a -> k when n == 0 && x > 1 do m := 0 - m, x := 7;
		edge k -> a do y := 0;
		edge b -> a when y == 4 sync d!;
	}
	auto B {
		loc a; loc u urgent inv y <= 6; loc b inv x <= 9;
		edge a -> u when y < 4 && m > 0 sync c? do m := m * 2, x := 3;
		edge u -> b when x >= 2;
		edge b -> a sync d? do y := 5, y := 1;
	}`

func richAt(a, b, n, m int) api.State { return api.State{Locs: []int{a, b}, Vars: []int{n, m}} }

// wrong is a network that is not right, and its error.
type wrong struct {
	api.Net
	err api.Errno
}

// wrongNets are networks that are not right, by each of the errors of chapters 10 and 12.
func wrongNets(t testing.TB) []wrong {
	l := []wrong{{err: api.ErrRange}, {api.Net{Clocks: []string{"x", "y"}}, api.ErrRange}}
	for _, c := range []struct {
		err    api.Errno
		change func(n *api.Net)
	}{
		{api.ErrRange, func(n *api.Net) { n.Autos[1].Locs = nil }},
		{api.ErrLong, func(n *api.Net) { n.Clocks = slices.Repeat(n.Clocks, 5) }},
		{api.ErrName, func(n *api.Net) { n.Autos[0].Name = "n" }},
		{api.ErrVar, func(n *api.Net) { n.Vars[0].Init = 4 }},
		{api.ErrLoc, func(n *api.Net) { n.Autos[0].Locs[2].Kind = 3 }},
		{api.ErrEdge, func(n *api.Net) { n.Autos[0].Edges[0].To = 3 }},
		{api.ErrClock, func(n *api.Net) { n.Autos[0].Locs[0].Inv[0].Clock = 3 }},
		{api.ErrForm, func(n *api.Net) { n.Autos[0].Edges[0].Guards[0].Cmp = 0 }},
		{api.ErrTest, func(n *api.Net) { n.Autos[0].Edges[0].Test = n.Autos[0].Edges[0].Test[1:] }},
		{api.ErrDiagonal, func(n *api.Net) { n.Autos[0].Edges[0].Guards[0].Other = 2 }},
		{api.ErrDiagonal, func(n *api.Net) { n.Autos[1].Locs[2].Inv[0].Other = 1 }},
		{api.ErrConst, func(n *api.Net) { n.Autos[0].Locs[0].Inv[0].N = -1 }},
		{api.ErrConst, func(n *api.Net) { n.Autos[1].Edges[1].Guards[0].N = api.MaxConst + 1 }},
		{api.ErrConst, func(n *api.Net) { n.Autos[0].Edges[2].Sets[0].N = -1 }},
	} {
		n := said(t, rich)
		c.change(&n)
		l = append(l, wrong{n, c.err})
	}
	for _, w := range l {
		if err := check.Net(w.Net); err != w.err {
			t.Fatal(err, w.err)
		}
	}
	return l
}

// wrongStates are states that are none of the rich network.
func wrongStates() []api.State {
	return []api.State{{}, at(0, 0), {Vars: []int{0, 2}}, {Locs: []int{0}, Vars: []int{0, 2}}, {Locs: []int{0, 0, 0}, Vars: []int{0, 2}}, {Locs: []int{0, 0}, Vars: []int{0}}, {Locs: []int{0, 0}, Vars: []int{0, 2, 0}}, richAt(3, 0, 0, 2), richAt(-1, 0, 0, 2), richAt(0, 3, 0, 2), richAt(0, -1, 0, 2), richAt(0, 0, 4, 2), richAt(0, 0, -1, 2), richAt(0, 0, 0, 10), richAt(0, 0, 0, -10), richAt(1<<32, 0, 0, 2)}
}

// copyPlan is the same with lists of its own.
func copyPlan(p api.Plan) api.Plan {
	table := func(t [][][]int) [][][]int {
		l := make([][][]int, len(t))
		for i, rows := range t {
			for _, row := range rows {
				l[i] = append(l[i], slices.Clone(row))
			}
		}
		return l
	}
	return api.Plan{Lo: table(p.Lo), Up: table(p.Up)}
}

// wrongPlans are plans with rows that are not right for a network with two clocks: rows too few, too many, nil, numbers that may not be; in Lo, in Up, in both.
func wrongPlans(good api.Plan) []api.Plan {
	last := len(good.Lo) - 1
	end := len(good.Lo[last]) - 1
	changes := []func(t *[][][]int){
		func(t *[][][]int) { *t = nil },
		func(t *[][][]int) { *t = [][][]int{} },
		func(t *[][][]int) { *t = (*t)[:last] },
		func(t *[][][]int) { *t = (*t)[1:] },
		func(t *[][][]int) { *t = append(*t, (*t)[0]) },
		func(t *[][][]int) { *t = append(*t, nil) },
		func(t *[][][]int) { (*t)[0] = nil },
		func(t *[][][]int) { (*t)[last] = (*t)[last][:end] },
		func(t *[][][]int) { (*t)[last] = append((*t)[last], (*t)[0][0]) },
		func(t *[][][]int) { (*t)[0] = append((*t)[0], nil) },
		func(t *[][][]int) { (*t)[0][0] = nil },
		func(t *[][][]int) { (*t)[last][end] = (*t)[last][end][:1] },
		func(t *[][][]int) { (*t)[last][end] = append((*t)[last][end], 0) },
	}
	for _, k := range []int{-2, -1 << 32, -1 << 63, api.MaxConst + 1, 1 << 32, 1<<63 - 1} {
		changes = append(changes, func(t *[][][]int) { (*t)[0][0][0] = k }, func(t *[][][]int) { (*t)[last][end][1] = k })
	}
	var l []api.Plan
	for at, change := range changes {
		lo, up, both := copyPlan(good), copyPlan(good), copyPlan(good)
		change(&lo.Lo)
		change(&up.Up)
		l = append(l, lo, up)
		// Both without rows: that is no wrong plan.
		if at > 1 {
			change(&both.Lo)
			change(&both.Up)
			l = append(l, both)
		}
	}
	return l
}

// edgesOf are the edges of a move, the sender's first.
func edgesOf(n api.Net, m api.Move) []api.Edge {
	l := []api.Edge{n.Autos[m.Auto].Edges[m.Edge]}
	if m.With > 0 {
		l = append(l, n.Autos[m.With-1].Edges[m.Take])
	}
	return l
}

func guardsOf(n api.Net, m api.Move) []api.Guard {
	var l []api.Guard
	for _, e := range edgesOf(n, m) {
		l = append(l, e.Guards...)
	}
	return l
}

func setsOf(n api.Net, m api.Move) []api.Set {
	var l []api.Set
	for _, e := range edgesOf(n, m) {
		for _, s := range e.Sets {
			if s.Clock > 0 {
				l = append(l, s)
			}
		}
	}
	return l
}

func invariantsOf(n api.Net, s api.State) []api.Guard {
	var l []api.Guard
	for i, a := range n.Autos {
		l = append(l, a.Locs[s.Locs[i]].Inv...)
	}
	return l
}

func mayPass(n api.Net, s api.State) bool {
	for i, a := range n.Autos {
		if a.Locs[s.Locs[i]].Kind != api.Plain {
			return false
		}
	}
	return true
}

// wantExactly is the answer by the words, call by call; of a right network, a state and a zone of it.
func wantExactly(n api.Net, s api.State, z *dbm.Zone, m api.Move) (api.State, *dbm.Zone, api.Errno) {
	next, err := moves.After(n, s, m)
	if err != api.OK {
		return api.State{}, nil, err
	}
	if z, err = ops.Guards(z, guardsOf(n, m)...); err != api.OK {
		return api.State{}, nil, err
	}
	for _, x := range setsOf(n, m) {
		if z, err = ops.Reset(z, x.Clock, x.N); err != api.OK {
			return api.State{}, nil, err
		}
	}
	if z, err = ops.Guards(z, invariantsOf(n, next)...); err != api.OK {
		return api.State{}, nil, err
	}
	return next, z, api.OK
}

func wantWait(n api.Net, s api.State, z *dbm.Zone) (*dbm.Zone, api.Errno) {
	if !mayPass(n, s) {
		return z, api.OK
	}
	z, err := ops.Up(z)
	if err != api.OK {
		return nil, err
	}
	return ops.Guards(z, invariantsOf(n, s)...)
}

// wantWiden are the greatest numbers, place by place.
func wantWiden(n api.Net, p api.Plan, s api.State) Widen {
	var w Widen
	most := check.Max(n)
	for c := range n.Clocks {
		lo, up := most[c], most[c]
		if len(p.Lo)+len(p.Up) > 0 {
			lo, up = -1, -1
			for i, l := range s.Locs {
				lo, up = max(lo, p.Lo[i][l][c]), max(up, p.Up[i][l][c])
			}
		}
		w.Lo, w.Up = append(w.Lo, lo), append(w.Up, up)
	}
	return w
}

func wantBehind(n api.Net, p api.Plan, s api.State, z *dbm.Zone, m api.Move) (api.State, *dbm.Zone, api.Errno) {
	next, z, err := wantExactly(n, s, z, m)
	if err != api.OK {
		return api.State{}, nil, err
	}
	if z, err = wantWait(n, next, z); err != api.OK {
		return api.State{}, nil, err
	}
	w := wantWiden(n, p, next)
	if z, err = extra.LU(z, w.Lo, w.Up); err != api.OK {
		return api.State{}, nil, err
	}
	return next, z, api.OK
}

// alike tells whether two states are the same, an empty list as nil.
func alike(a, b any) bool { return fmt.Sprint(a) == fmt.Sprint(b) }

// isAnswer holds a state, a zone and an error to those that are wanted; beside an error there is nothing.
func isAnswer(t testing.TB, s api.State, z *dbm.Zone, err api.Errno) func(api.State, *dbm.Zone, api.Errno) {
	return func(want api.State, y *dbm.Zone, wantErr api.Errno) {
		t.Helper()
		if err != wantErr || err == api.OK && (!alike(s, want) || !z.Equal(y)) {
			t.Fatal(s, z.Print(), err, "not", want, y.Print(), wantErr)
		}
		if err != api.OK && (z != nil || s.Locs != nil || s.Vars != nil) {
			t.Fatal(s, z.Print(), err)
		}
	}
}

// isZone holds a zone and an error to those that are wanted.
func isZone(t testing.TB, z *dbm.Zone, err api.Errno) func(*dbm.Zone, api.Errno) {
	return func(y *dbm.Zone, wantErr api.Errno) {
		t.Helper()
		isAnswer(t, api.State{}, z, err)(api.State{}, y, wantErr)
	}
}

// place is a valuation in parts of 1/den, the number 0 first, which is 0.
type place struct {
	den int64
	at  []int64
}

func (p place) in(z *dbm.Zone) bool {
	side := len(p.at)
	for at, b := range z.Cells() {
		if v, reached := value(b); b != api.Inf {
			d := p.at[at/side] - p.at[at%side]
			if d > v*p.den || d == v*p.den && !reached {
				return false
			}
		}
	}
	return z.Dim() == side-1
}

// holds tells whether all guards hold.
func (p place) holds(l ...api.Guard) bool {
	for _, g := range l {
		c := cmp.Compare(p.at[g.Clock], int64(g.N)*p.den)
		if is := []bool{api.Lt: c < 0, api.Le: c <= 0, api.Eq: c == 0, api.Ge: c >= 0, api.Gt: c > 0}[g.Cmp]; !is {
			return false
		}
	}
	return true
}

// set is the valuation behind sets.
func (p place) set(l ...api.Set) place {
	q := place{p.den, slices.Clone(p.at)}
	for _, s := range l {
		q.at[s.Clock] = int64(s.N) * p.den
	}
	return q
}

// later tells whether the valuation is one of a zone some time later.
func (p place) later(z *dbm.Zone) bool {
	side := len(p.at)
	x := newSystem(1)
	for at, b := range z.Cells() {
		i, j := at/side, at%side
		v, reached := value(b)
		edge := limit{v*p.den - p.at[i] + p.at[j], !reached, b == api.Inf}
		switch {
		case i != 0 && j == 0: // p_i - d is bounded: -d is
			x.bound(0, 1, edge)
		case i == 0 && j != 0:
			x.bound(1, 0, edge)
		default: // d plays no part in it
			x.bound(0, 0, edge)
		}
	}
	return x.some()
}

// value is a finite bound by the words of DOC.md: 2 v + 1, 2 v.
func value(b api.Bound) (v int64, reached bool) {
	if b%2 != 0 {
		return (int64(b) - 1) / 2, true
	}
	return int64(b) / 2, false
}

// limit is a bound of a difference.
type limit struct {
	v    int64
	open bool // v is not reached
	none bool
}

// stricter tells whether a limit leaves less than another one.
func (l limit) stricter(o limit) bool {
	return !l.none && (o.none || l.v < o.v || l.v == o.v && l.open && !o.open)
}

// system is unknown numbers, not below 0, and bounds of their differences; the number 0 is 0.
type system [][]limit

func newSystem(unknown int) system {
	x := make(system, unknown+1)
	for i := range x {
		x[i] = slices.Repeat([]limit{{none: i > 0}}, unknown+1)
		x[i][i] = limit{}
	}
	return x
}

func (x system) bound(i, j int, l limit) {
	if l.stricter(x[i][j]) {
		x[i][j] = l
	}
}

// some tells whether some numbers keep all bounds: no way round comes to less than 0.
func (x system) some() bool {
	for k := range x {
		for i := range x {
			for j := range x {
				a, b := x[i][k], x[k][j]
				x.bound(i, j, limit{a.v + b.v, a.open || b.open, a.none || b.none})
			}
		}
	}
	for i := range x {
		if x[i][i].stricter(limit{}) {
			return false
		}
	}
	return true
}

// systemOf is the valuations of a zone that keep guards, in parts of 1/den.
func systemOf(z *dbm.Zone, den int64, l ...api.Guard) system {
	side := z.Dim() + 1
	x := newSystem(z.Dim())
	for at, b := range z.Cells() {
		v, reached := value(b)
		x.bound(at/side, at%side, limit{v * den, !reached, b == api.Inf})
	}
	for _, g := range l {
		if g.Cmp <= api.Eq {
			x.bound(g.Clock, 0, limit{v: int64(g.N) * den, open: g.Cmp == api.Lt})
		}
		if g.Cmp >= api.Eq {
			x.bound(0, g.Clock, limit{v: -int64(g.N) * den, open: g.Cmp == api.Gt})
		}
	}
	return x
}

// isBehind tells whether the valuation is one of a zone that keeps guards, behind sets.
func (p place) isBehind(z *dbm.Zone, guards []api.Guard, sets []api.Set) bool {
	if !slices.Equal(p.set(sets...).at, p.at) {
		return false
	}
	x := systemOf(z, p.den, guards...)
	for c := 1; c < len(p.at); c++ {
		if !slices.ContainsFunc(sets, func(s api.Set) bool { return s.Clock == c }) {
			x.bound(c, 0, limit{v: p.at[c]})
			x.bound(0, c, limit{v: -p.at[c]})
		}
	}
	return x.some()
}

func someGuards(r *rand.Rand, clocks, top int) []api.Guard {
	var l []api.Guard
	for range r.IntN(3) {
		if clocks > 0 {
			l = append(l, api.Guard{Clock: 1 + r.IntN(clocks), Cmp: api.Cmp(1 + r.IntN(5)), N: r.IntN(top + 1)})
		}
	}
	return l
}

func someEdge(r *rand.Rand, n api.Net, locs, top int) api.Edge {
	e := api.Edge{From: r.IntN(locs), To: r.IntN(locs), Guards: someGuards(r, len(n.Clocks), top), Chan: r.IntN(len(n.Chans) + 1)}
	e.Send = e.Chan > 0 && r.IntN(2) == 0
	for range r.IntN(3) {
		if len(n.Clocks) > 0 {
			e.Sets = append(e.Sets, api.Set{Clock: 1 + r.IntN(len(n.Clocks)), N: r.IntN(top+1) * r.IntN(2)})
		}
	}
	if len(n.Vars) > 0 && r.IntN(2) == 0 {
		v := r.IntN(len(n.Vars))
		e.Sets = append(e.Sets, api.Set{Var: v, Expr: []api.Node{{Op: api.Add}, {Op: api.Var, N: v}, {Op: api.Num, N: 1}}})
		e.Test = []api.Node{{Op: api.Less}, {Op: api.Var}, {Op: api.Num, N: 1 + r.IntN(2)}}
	}
	return e
}

// someNet is a right network with so many clocks, whose numbers are at most top.
func someNet(r *rand.Rand, clocks, top int) api.Net {
	n := api.Net{Clocks: []string{"x", "y", "z", "x4", "x5", "x6", "x7", "x8"}[:clocks], Chans: []string{"c", "d"}[:r.IntN(3)]}
	for _, name := range []string{"n", "m"}[:r.IntN(3)] {
		n.Vars = append(n.Vars, api.Variable{Name: name, Hi: 2})
	}
	for _, name := range []string{"A", "B", "C"}[:1+r.IntN(3)] {
		a := api.Auto{Name: name}
		for i := range 1 + r.IntN(3) {
			a.Locs = append(a.Locs, api.Loc{Name: fmt.Sprint("l", i), Kind: api.LocKind(max(0, r.IntN(9)-6))})
			if r.IntN(2) == 0 {
				a.Locs[i].Inv = someGuards(r, clocks, top)
			}
		}
		for range 1 + r.IntN(5) {
			a.Edges = append(a.Edges, someEdge(r, n, len(a.Locs), top))
		}
		n.Autos = append(n.Autos, a)
	}
	return n
}

func someState(r *rand.Rand, n api.Net) api.State {
	var s api.State
	for _, a := range n.Autos {
		s.Locs = append(s.Locs, r.IntN(len(a.Locs)))
	}
	for _, v := range n.Vars {
		s.Vars = append(s.Vars, v.Lo+r.IntN(v.Hi-v.Lo+1))
	}
	return s
}

// someZone has a point in it with numbers up to top; of each twelve about one is empty.
func someZone(t testing.TB, r *rand.Rand, n, top int) (*dbm.Zone, []int) {
	t.Helper()
	p := make([]int, n+1)
	for i := 1; i <= n; i++ {
		p[i] = r.IntN(top + 1)
	}
	cells := make([]api.Bound, (n+1)*(n+1))
	for at := range cells {
		cells[at] = api.Bound(2*(p[at/(n+1)]-p[at%(n+1)]+r.IntN(3)) + 1)
		if r.IntN(3) == 0 {
			cells[at]++ // less than one more
		}
		if r.IntN(2) == 0 {
			cells[at] = api.Inf
		}
	}
	if r.IntN(12) == 0 {
		cells[0] = 0
	}
	return must(t)(dbm.Of(n, cells)), p
}

// somePlaces are valuations near to a point, with the numbers of some sets among them.
func somePlaces(r *rand.Rand, p []int, sets []api.Set) []place {
	den := int64(len(p))
	var l []place
	for k := range 40 {
		q := place{den, make([]int64, len(p))}
		wide := 1 + k%(6*len(p))
		for i := 1; i < len(p); i++ {
			q.at[i] = max(0, int64(p[i])*den+int64(r.IntN(2*wide+1)-wide))
		}
		if r.IntN(4) > 0 {
			q = q.set(sets...)
		}
		l = append(l, q)
	}
	return l
}

func somePlan(r *rand.Rand, n api.Net, top int) api.Plan {
	table := func() [][][]int {
		l := make([][][]int, len(n.Autos))
		for i, a := range n.Autos {
			for range a.Locs {
				numbers := make([]int, len(n.Clocks))
				for c := range numbers {
					numbers[c] = r.IntN(top+2) - 1
				}
				l[i] = append(l[i], numbers)
			}
		}
		return l
	}
	return api.Plan{Lo: table(), Up: table()}
}

// someMove is one that is open, or, if there is none, or now and then, any.
func someMove(r *rand.Rand, n api.Net, s api.State) api.Move {
	if l := moves.Enabled(n, s); len(l) > 0 && r.IntN(4) > 0 {
		return l[r.IntN(len(l))]
	}
	if l := moves.All(n); len(l) > 0 && r.IntN(3) > 0 {
		return l[r.IntN(len(l))]
	}
	return api.Move{Auto: r.IntN(4) - 1, Edge: r.IntN(4), With: r.IntN(3)}
}

// stepCase is something that can be done: a network, a state, a zone with a point, a move that is open.
type stepCase struct {
	api.Net
	s     api.State
	z     *dbm.Zone
	point []int
	m     api.Move
}

// eachStep hands steps of networks of all numbers of clocks to a function.
func eachStep(t *testing.T, seed uint64, many, top int, try func(r *rand.Rand, c stepCase)) {
	t.Helper()
	for clocks := range api.MaxClocks + 1 {
		r := source(100*seed + uint64(clocks))
		for done := 0; done < many; {
			n := someNet(r, clocks, top)
			s := someState(r, n)
			for _, m := range moves.Enabled(n, s) {
				z, p := someZone(t, r, clocks, top)
				try(r, stepCase{n, s, z, p, m})
				done++
			}
		}
	}
}

// memory is a piece of memory that a list has, its spare room included.
type memory struct{ from, to uintptr }

// memories are those of all lists of a value.
func memories(v reflect.Value) []memory {
	var l []memory
	switch v.Kind() {
	case reflect.Slice:
		if v.Cap() > 0 {
			l = append(l, memory{v.Pointer(), v.Pointer() + uintptr(v.Cap())*v.Type().Elem().Size()})
		}
		for i := range v.Len() {
			l = append(l, memories(v.Index(i))...)
		}
	case reflect.Struct:
		for i := range v.NumField() {
			l = append(l, memories(v.Field(i))...)
		}
	}
	return l
}

// shared tells whether two of the lists of some values lie in one another.
func shared(values ...any) bool {
	var l []memory
	for _, v := range values {
		l = append(l, memories(reflect.ValueOf(v))...)
	}
	slices.SortFunc(l, func(a, b memory) int { return cmp.Compare(a.from, b.from) })
	for i := 1; i < len(l); i++ {
		if l[i].from < l[i-1].to {
			return true
		}
	}
	return false
}
