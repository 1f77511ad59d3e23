package session

import (
	"cmp"
	"fmt"
	"math"
	"math/rand/v2"
	"reflect"
	"slices"
	"testing"

	"gnomon/active"
	"gnomon/api"
	"gnomon/bound"
	"gnomon/check"
	"gnomon/dbm"
	"gnomon/extra"
	"gnomon/lu"
	"gnomon/net"
	"gnomon/ops"
	"gnomon/parse"
	"gnomon/run"
	"gnomon/search"
	"gnomon/times"
)

func source(seed uint64) *rand.Rand { return rand.New(rand.NewPCG(27, seed)) }

const small = "clock x; auto A { loc a inv x <= 5; loc b; edge a -> b when x >= 3 do x := 0; }"

// rich has something of everything.
const rich = `clock x, y; int n in 0 .. 3 := 0; int m in -9 .. 9 := 2; chan c, d;
	auto A {
		loc a inv x <= 5; loc b inv y < 7 && x >= 1; loc k committed;
		edge a -> b when x >= 3 && n < 3 sync c! do x := 1, n := n + 1, y := 2;
		edge a -> k when n == 0 && x > 1 do m := 0 - m, x := 7;
		edge k -> a do y := 0;
		edge b -> a when y == 4 sync d!;
	}
	auto B {
		loc a; loc u urgent inv y <= 6; loc b inv x <= 9;
		edge a -> u when y < 4 && m > 0 sync c? do m := m * 2, x := 3;
		edge u -> b when x >= 2;
		edge b -> a sync d? do y := 5, y := 1;
	}`

// noNumbers are numbers that no zone of a short row has.
func noNumbers(long int) []int {
	return []int{math.MinInt, -1 << 32, -2, -1, long, long + 1, 1 << 31, 1 << 32, math.MaxInt}
}

// noKinds are Kinds that are none.
func noKinds() []int { return []int{math.MinInt, -13, -1, 13, 14, 256, 1 << 32, math.MaxInt} }

// made is what a call tells that has made a zone; or its error.
func made(z *dbm.Zone, err api.Errno) Told { return Told{Errno: err, Cells: z.Cells()} }

// said is the answer of a question.
func said(yes bool) Told { return Told{Yes: yes} }

// zone is one that a call has made without an error.
func zone(t testing.TB, z *dbm.Zone, err api.Errno) *dbm.Zone {
	t.Helper()
	if err != api.OK {
		t.Fatal(err)
	}
	return z
}

// areTold holds what Zones tells to what it must tell.
func areTold(t testing.TB, want ...Told) func([]Told, api.Errno) {
	return func(l []Told, err api.Errno) {
		t.Helper()
		if err != api.OK || !isAlike(l, want) {
			t.Errorf("%v %d, not %v", l, err, want)
		}
	}
}

func isAlike(a, b []Told) bool {
	return slices.EqualFunc(a, b, func(x, y Told) bool {
		return x.Errno == y.Errno && x.Yes == y.Yes && slices.Equal(x.Cells, y.Cells)
	})
}

// isRefused holds what Zones tells to an error, and nothing beside it.
func isRefused(t testing.TB, want api.Errno) func([]Told, api.Errno) {
	return func(l []Told, err api.Errno) {
		t.Helper()
		if err != want || len(l) != 0 {
			t.Errorf("%v %d, not %d", l, err, want)
		}
	}
}

// wantZones is what a script tells by the words: the table of calls, each with the zones that it needs; n is such as may be.
func wantZones(n int, l []Call) []Told {
	type deed struct {
		needs int
		do    func(c Call, a, b *dbm.Zone) (*dbm.Zone, bool, api.Errno)
	}
	zones := func(do func(c Call, a, b *dbm.Zone) (*dbm.Zone, api.Errno)) func(c Call, a, b *dbm.Zone) (*dbm.Zone, bool, api.Errno) {
		return func(c Call, a, b *dbm.Zone) (*dbm.Zone, bool, api.Errno) {
			z, err := do(c, a, b)
			return z, false, err
		}
	}
	question := func(do func(a, b *dbm.Zone) bool) func(c Call, a, b *dbm.Zone) (*dbm.Zone, bool, api.Errno) {
		return func(c Call, a, b *dbm.Zone) (*dbm.Zone, bool, api.Errno) { return nil, do(a, b), api.OK }
	}
	table := map[int]deed{
		0: {0, zones(func(c Call, a, b *dbm.Zone) (*dbm.Zone, api.Errno) { return dbm.Zero(n) })},
		1: {1, zones(func(c Call, a, b *dbm.Zone) (*dbm.Zone, api.Errno) { return ops.Up(a) })},
		2: {1, zones(func(c Call, a, b *dbm.Zone) (*dbm.Zone, api.Errno) { return ops.Down(a) })},
		3: {1, zones(func(c Call, a, b *dbm.Zone) (*dbm.Zone, api.Errno) { return ops.Reset(a, c.I, c.N) })},
		4: {1, zones(func(c Call, a, b *dbm.Zone) (*dbm.Zone, api.Errno) { return ops.Free(a, c.I) })},
		5: {1, zones(func(c Call, a, b *dbm.Zone) (*dbm.Zone, api.Errno) {
			return ops.Constrain(a, api.Limit{I: c.I, J: c.J, Bound: c.Bound})
		})},
		6:  {2, zones(func(c Call, a, b *dbm.Zone) (*dbm.Zone, api.Errno) { return ops.And(a, b) })},
		7:  {1, zones(func(c Call, a, b *dbm.Zone) (*dbm.Zone, api.Errno) { return extra.Max(a, c.Numbers) })},
		8:  {0, zones(func(c Call, a, b *dbm.Zone) (*dbm.Zone, api.Errno) { return wantOf(n, c.Numbers) })},
		9:  {2, question(func(a, b *dbm.Zone) bool { return a.Includes(b) })},
		10: {2, question(func(a, b *dbm.Zone) bool { return a.Equal(b) })},
		11: {1, question(func(a, b *dbm.Zone) bool { return a.Empty() })},
		12: {1, zones(func(c Call, a, b *dbm.Zone) (*dbm.Zone, api.Errno) { return wantLU(a, c.Numbers) })},
	}
	first, _ := dbm.Universe(n)
	row := map[int]*dbm.Zone{0: first}
	var told []Told
	for _, c := range l {
		d, some := table[c.Kind]
		a, b := row[c.A], row[c.B]
		switch {
		case !some:
			told = append(told, Told{Errno: api.ErrForm})
		case d.needs > 0 && a == nil, d.needs > 1 && b == nil:
			told = append(told, Told{Errno: api.ErrNone})
		default:
			z, yes, err := d.do(c, a, b)
			if z != nil {
				row[len(row)] = z
			}
			told = append(told, Told{err, yes, z.Cells()})
		}
	}
	return told
}

func wantOf(n int, numbers []int) (*dbm.Zone, api.Errno) {
	cells := make([]api.Bound, len(numbers))
	for i, x := range numbers {
		if x < math.MinInt32 || x > math.MaxInt32 {
			return nil, api.ErrForm
		}
		cells[i] = api.Bound(x)
	}
	return dbm.Of(n, cells)
}

func wantLU(z *dbm.Zone, numbers []int) (*dbm.Zone, api.Errno) {
	if k := len(numbers); k%2 == 1 {
		return nil, api.ErrLong
	}
	k := len(numbers) / 2
	return extra.LU(z, slices.Clone(numbers[:k]), slices.Clone(numbers[k:]))
}

func someBound(r *rand.Rand) api.Bound {
	switch r.IntN(12) {
	case 0:
		return api.Inf
	case 1:
		return api.Bound(r.Uint32())
	case 2, 3, 4:
		return api.Bound(2*api.MaxBound - r.IntN(4) + 1)
	}
	return api.Bound(r.IntN(41) - 12)
}

// someNumbers are n numbers, mostly, of which a few are such as may not be.
func someNumbers(r *rand.Rand, n int, next func() int) []int {
	if r.IntN(10) == 0 {
		n = r.IntN(2*n + 3)
	}
	var l []int
	for range n {
		l = append(l, next())
		if r.IntN(60) == 0 {
			l[len(l)-1] = []int{-2, api.MaxConst + 1, 1 << 31, -1<<31 - 1, 1 << 32, math.MaxInt, math.MinInt, math.MaxInt32, math.MinInt32}[r.IntN(9)]
		}
	}
	return l
}

// someCall is a call of a script of n clocks whose row is not longer than long; seldom one that may not be.
func someCall(r *rand.Rand, n, long int) Call {
	c := Call{Kind: r.IntN(13), A: r.IntN(long), B: r.IntN(long), I: r.IntN(n + 1), J: r.IntN(n + 1), N: r.IntN(9), Bound: someBound(r)}
	// Several bounds of one zone may add up to more than may be.
	if r.IntN(4) == 0 {
		c.Kind, c.A = 5, long-1
	}
	switch c.Kind {
	case 7:
		c.Numbers = someNumbers(r, n, func() int { return r.IntN(10) - 1 })
	case 8:
		c.Numbers = someNumbers(r, (n+1)*(n+1), func() int { return r.IntN(50) - 5 })
	case 12:
		c.Numbers = someNumbers(r, 2*n, func() int { return r.IntN(10) - 1 })
	}
	if r.IntN(8) == 0 {
		wrong := []int{math.MinInt, -2, -1, 9, 13, 14, api.MaxConst + 1, 1 << 32, math.MaxInt}[r.IntN(9)]
		*[]*int{&c.Kind, &c.A, &c.B, &c.I, &c.J, &c.N}[r.IntN(6)] = wrong
	}
	return c
}

// someScript is a script at random. That each call has a row of its length ahead of it is not asked for: so some name zones that are none.
func someScript(r *rand.Rand, n, many int) []Call {
	var l []Call
	for i := range many {
		l = append(l, someCall(r, n, i*2/3+1))
	}
	return l
}

// areAnswers holds what Net tells to what it must tell.
func areAnswers(t testing.TB, want ...Answer) func([]Answer, api.Errno, int) {
	return func(l []Answer, err api.Errno, at int) {
		t.Helper()
		if err != api.OK || at != 0 || !slices.Equal(l, want) {
			t.Errorf("%v %d %d, not %v", l, err, at, want)
		}
	}
}

// isWrong holds what Net tells to an error and a place, and nothing beside them.
func isWrong(t testing.TB, want api.Errno, place int) func([]Answer, api.Errno, int) {
	return func(l []Answer, err api.Errno, at int) {
		t.Helper()
		if err != want || at != place || len(l) != 0 {
			t.Errorf("%v %d %d, not %d %d", l, err, at, want, place)
		}
	}
}

// parsed is the network that a text says.
func parsed(t testing.TB, s string) api.Net {
	t.Helper()
	n, err, at := parse.Net(s)
	if err != api.OK {
		t.Fatal(s, err, at)
	}
	return n
}

// wantAnswer is what a question of a right network tells by the words: a search that is gone pop by pop.
func wantAnswer(n api.Net, a Ask) Answer {
	g, err, at := parse.Goal(n, a.Goal)
	if err != api.OK {
		return Answer{Errno: err, At: at}
	}
	if err := check.Goal(n, g); err != api.OK {
		return Answer{Errno: err}
	}
	plans := map[int]func(api.Net, ...api.Goal) (api.Plan, api.Errno){0: func(api.Net, ...api.Goal) (api.Plan, api.Errno) { return api.Plan{}, api.OK }, 1: lu.Plan, 2: active.Plan}
	if plans[a.Plan] == nil {
		return Answer{Errno: api.ErrForm}
	}
	p, _ := plans[a.Plan](n, g)
	s, _ := search.New(n, g, p, a.Last)
	err = api.OK
	if s.Verdict() == api.Unknown {
		err = api.ErrFuel
	}
	for k := 0; k < a.Fuel && err == api.ErrFuel; k++ {
		_, err = s.Go(1)
	}
	told := Answer{Errno: err, Verdict: s.Verdict(), Stored: len(s.Nodes())}
	if told.Verdict == api.Reachable {
		i, part := s.Found()
		var way []api.Move
		for l := s.Nodes(); l[i].Parent >= 0; i = l[i].Parent {
			way = slices.Insert(way, 0, l[i].Move)
		}
		r, _ := times.Run(n, way, g[part])
		told.Run, _ = run.Print(n, r)
	}
	return told
}

func someGuards(r *rand.Rand, clocks, top int) []api.Guard {
	var l []api.Guard
	for range r.IntN(3) {
		if clocks > 0 {
			l = append(l, api.Guard{Clock: 1 + r.IntN(clocks), Cmp: api.Cmp(1 + r.IntN(5)), N: r.IntN(top + 1)})
		}
	}
	return l
}

func someEdge(r *rand.Rand, n api.Net, locs, top int) api.Edge {
	e := api.Edge{From: r.IntN(locs), To: r.IntN(locs), Guards: someGuards(r, len(n.Clocks), top), Chan: r.IntN(len(n.Chans) + 1)}
	e.Send = e.Chan > 0 && r.IntN(2) == 0
	for range r.IntN(3) {
		if len(n.Clocks) > 0 {
			e.Sets = append(e.Sets, api.Set{Clock: 1 + r.IntN(len(n.Clocks)), N: r.IntN(top+1) * r.IntN(2)})
		}
	}
	if len(n.Vars) > 0 && r.IntN(2) == 0 {
		v := r.IntN(len(n.Vars))
		e.Sets = append(e.Sets, api.Set{Var: v, Expr: []api.Node{{Op: api.Add}, {Op: api.Var, N: v}, {Op: api.Num, N: 1}}})
		e.Test = []api.Node{{Op: api.Less}, {Op: api.Var}, {Op: api.Num, N: 1 + r.IntN(2)}}
	}
	return e
}

// someNet is a right network with so many clocks, whose numbers are at most top.
func someNet(r *rand.Rand, clocks, top int) api.Net {
	n := api.Net{Clocks: []string{"x", "y", "z", "w"}[:clocks], Chans: []string{"c", "d"}[:r.IntN(3)]}
	for _, name := range []string{"n", "m"}[:r.IntN(3)] {
		n.Vars = append(n.Vars, api.Variable{Name: name, Hi: 2})
	}
	for _, name := range []string{"A", "B", "C"}[:1+r.IntN(3)] {
		a := api.Auto{Name: name}
		for i := range 1 + r.IntN(3) {
			a.Locs = append(a.Locs, api.Loc{Name: fmt.Sprint("l", i), Kind: api.LocKind(max(0, r.IntN(12)-9))})
			if r.IntN(3) == 0 {
				a.Locs[i].Inv = someGuards(r, clocks, top)
			}
		}
		for range 2 + r.IntN(6) {
			a.Edges = append(a.Edges, someEdge(r, n, len(a.Locs), top))
		}
		n.Autos = append(n.Autos, a)
	}
	return n
}

// someGoal is a right goal of few parts that seldom holds at the beginning.
func someGoal(r *rand.Rand, n api.Net, top int) api.Goal {
	var g api.Goal
	for range 1 + r.IntN(3) {
		p := api.Part{Guards: append(someGuards(r, len(n.Clocks), top), someGuards(r, len(n.Clocks), top)...)}
		for i, a := range n.Autos {
			if r.IntN(4) > 0 {
				p.Locs = append(p.Locs, api.At{Auto: i, Loc: len(a.Locs) - 1 - r.IntN(2)*r.IntN(len(a.Locs))})
			}
		}
		if len(n.Vars) > 0 && r.IntN(3) > 0 {
			p.Test = []api.Node{{Op: api.Equal}, {Op: api.Var, N: r.IntN(len(n.Vars))}, {Op: api.Num, N: r.IntN(3)}}
		}
		g = append(g, p)
	}
	return g
}

// eachNet hands texts of networks at random, and of goals of them, to a function.
func eachNet(t testing.TB, seed uint64, many int, try func(r *rand.Rand, n api.Net, text, goal string)) {
	t.Helper()
	r := source(seed)
	for k := range many {
		n := someNet(r, k%4, 3)
		text, err := net.Print(n)
		if err != api.OK {
			t.Fatal(n, err)
		}
		goal, err := net.PrintGoal(n, someGoal(r, n, 5))
		if err != api.OK {
			t.Fatal(n, err)
		}
		try(r, n, text, goal)
	}
}

func atMost(v int) api.Bound {
	b, _ := bound.AtMost(v)
	return b
}

func lessThan(v int) api.Bound {
	b, _ := bound.LessThan(v)
	return b
}

// memory is a piece of memory that a list has, its spare room included.
type memory struct{ from, to uintptr }

// memories are those of all lists of a value.
func memories(v reflect.Value) []memory {
	var l []memory
	switch v.Kind() {
	case reflect.Slice:
		if v.Cap() > 0 {
			l = append(l, memory{v.Pointer(), v.Pointer() + uintptr(v.Cap())*v.Type().Elem().Size()})
		}
		for i := range v.Len() {
			l = append(l, memories(v.Index(i))...)
		}
	case reflect.Struct:
		for i := range v.NumField() {
			l = append(l, memories(v.Field(i))...)
		}
	}
	return l
}

// shared tells whether two of the lists of some values lie in one another.
func shared(values ...any) bool {
	var l []memory
	for _, v := range values {
		l = append(l, memories(reflect.ValueOf(v))...)
	}
	slices.SortFunc(l, func(a, b memory) int { return cmp.Compare(a.from, b.from) })
	for i := 1; i < len(l); i++ {
		if l[i].from < l[i-1].to {
			return true
		}
	}
	return false
}
