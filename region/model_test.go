package region

import (
	"cmp"
	"fmt"
	"math"
	"math/big"
	"math/rand/v2"
	"reflect"
	"slices"
	"strings"
	"testing"

	"gnomon/api"
	"gnomon/check"
	"gnomon/moves"
	"gnomon/parse"
	"gnomon/state"
)

func source(seed uint64) *rand.Rand { return rand.New(rand.NewPCG(23, seed)) }

// wild are numbers of all sizes.
var wild = []int{0, 1, -1, 2, -2, 3, 5, 7, 8, 9, 64, 255, 256, api.MaxConst - 1, api.MaxConst, api.MaxConst + 1, api.MaxConst + 2, 1 << 31, -1 << 31, 1<<32 + 1, math.MaxInt, math.MaxInt - 1, math.MinInt, math.MinInt + 1}

// said is the network that a text says.
func said(t testing.TB, s string) api.Net {
	t.Helper()
	n, err, at := parse.Net(s)
	if err != api.OK {
		t.Fatal(s, err, at)
	}
	return n
}

// aim is the goal that a text says; of no text that of no part.
func aim(t testing.TB, n api.Net, s string) api.Goal {
	t.Helper()
	if s == "" {
		return nil
	}
	g, err, at := parse.Goal(n, s)
	if err != api.OK {
		t.Fatal(s, err, at)
	}
	return g
}

// frac is the fraction that a text says, right or not.
func frac(t testing.TB, s string) api.Rat {
	t.Helper()
	r := api.Rat{Den: 1}
	if !strings.Contains(s, "/") {
		s += "/1"
	}
	if _, err := fmt.Sscanf(s, "%d/%d", &r.Num, &r.Den); err != nil {
		t.Fatal(s, err)
	}
	return r
}

// values are the fractions that a text says, with blanks between.
func values(t testing.TB, s string) []api.Rat {
	t.Helper()
	var l []api.Rat
	for word := range strings.FieldsSeq(s) {
		l = append(l, frac(t, word))
	}
	return l
}

// textOf is a region as a text: of each clock its Whole, and, if there is one, a plus and its Rank.
func textOf(r Region) string {
	if len(r.Whole) != len(r.Rank) {
		return fmt.Sprint("not as many: ", r)
	}
	var l []string
	for i, whole := range r.Whole {
		l = append(l, fmt.Sprint(whole))
		if r.Rank[i] != 0 {
			l[i] += fmt.Sprint("+", r.Rank[i])
		}
	}
	return strings.Join(l, " ")
}

// read is the region that a text says, right or not.
func read(t testing.TB, s string) Region {
	t.Helper()
	var r Region
	for word := range strings.FieldsSeq(s) {
		if !strings.Contains(word, "+") {
			word += "+0"
		}
		var whole, rank int
		if _, err := fmt.Sscanf(strings.ReplaceAll(word, "+", " "), "%d %d", &whole, &rank); err != nil {
			t.Fatal(s, err)
		}
		r.Whole, r.Rank = append(r.Whole, whole), append(r.Rank, rank)
	}
	return r
}

// is holds an answer to the text of a region.
func is(t testing.TB, want string) func(Region, api.Errno) {
	return func(r Region, err api.Errno) {
		t.Helper()
		if err != api.OK || textOf(r) != want {
			t.Errorf("%s %d, not %s", textOf(r), err, want)
		}
	}
}

// isErr holds an answer to an error, beside which nothing is told.
func isErr(t testing.TB, want api.Errno) func(Region, api.Errno) {
	return func(r Region, err api.Errno) {
		t.Helper()
		if err != want || len(r.Whole) != 0 || len(r.Rank) != 0 {
			t.Errorf("%v %d, not %d", r, err, want)
		}
	}
}

// isPoint holds an answer to the text of a valuation.
func isPoint(t testing.TB, want string) func([]api.Rat, api.Errno) {
	return func(v []api.Rat, err api.Errno) {
		t.Helper()
		if err != api.OK || !slices.Equal(v, values(t, want)) {
			t.Errorf("%v %d, not %s", v, err, want)
		}
	}
}

// isNoPoint holds an answer to an error.
func isNoPoint(t testing.TB, want api.Errno) func([]api.Rat, api.Errno) {
	return func(v []api.Rat, err api.Errno) {
		t.Helper()
		if err != want || len(v) != 0 {
			t.Errorf("%v %d, not %d", v, err, want)
		}
	}
}

// isHeld holds an answer of Holds to what it must be.
func isHeld(t testing.TB, want bool, wantErr api.Errno) func(bool, api.Errno) {
	return func(held bool, err api.Errno) {
		t.Helper()
		if held != want || err != wantErr {
			t.Errorf("%v %d, not %v %d", held, err, want, wantErr)
		}
	}
}

// isTold holds what Reach answers to what it must answer.
func isTold(t testing.TB, want api.Verdict, looked int, wantErr api.Errno) func(api.Verdict, int, api.Errno) {
	return func(v api.Verdict, many int, err api.Errno) {
		t.Helper()
		if v != want || many != looked || err != wantErr {
			t.Errorf("%d %d %d, not %d %d %d", v, many, err, want, looked, wantErr)
		}
	}
}

const small = "clock x; auto A { loc a inv x <= 5; loc b; edge a -> b when x >= 3 do x := 0; }"

// rich has something of everything.
const rich = `clock x, y; int n in 0 .. 3 := 0; int m in -9 .. 9 := 2; chan c, d;
	auto A {
		loc a inv x <= 5; loc b inv y < 7 && x >= 1; loc k committed;
		edge a -> b when x >= 3 && n < 3 sync c! do x := 1, n := n + 1, y := 2;
		edge a -> k when n == 0 && x > 1 do m := 0 - m, x := 7;
		edge k -> a do y := 0;
		edge b -> a when y == 4 sync d!;
	}
	auto B {
		loc a; loc u urgent inv y <= 6; loc b inv x <= 9;
		edge a -> u when y < 4 && m > 0 sync c? do m := m * 2, x := 3;
		edge u -> b when x >= 2;
		edge b -> a sync d? do y := 5, y := 1;
	}`

// richGoal has parts of all kinds.
const richGoal = "A.b && B.b && y > 12 || x >= 20 && n == 2 || A.k && m < 0 && n > 0"

// fault is a network and a goal, and their error.
type fault struct {
	n   api.Net
	g   api.Goal
	err api.Errno
}

// wrongNets are networks that are not right, by each of the errors of chapters 10 and 12.
func wrongNets(t testing.TB) []fault {
	l := []fault{{err: api.ErrRange}, {n: api.Net{Clocks: []string{"x", "y"}}, err: api.ErrRange}}
	for _, c := range []struct {
		err    api.Errno
		change func(n *api.Net)
	}{
		{api.ErrRange, func(n *api.Net) { n.Autos[1].Locs = nil }},
		{api.ErrLong, func(n *api.Net) { n.Clocks = slices.Repeat(n.Clocks, 5) }},
		{api.ErrName, func(n *api.Net) { n.Autos[0].Name = "n" }},
		{api.ErrVar, func(n *api.Net) { n.Vars[0].Init = 4 }},
		{api.ErrLoc, func(n *api.Net) { n.Autos[0].Locs[2].Kind = 3 }},
		{api.ErrEdge, func(n *api.Net) { n.Autos[0].Edges[0].To = 3 }},
		{api.ErrClock, func(n *api.Net) { n.Autos[0].Locs[0].Inv[0].Clock = 3 }},
		{api.ErrForm, func(n *api.Net) { n.Autos[0].Edges[0].Guards[0].Cmp = 0 }},
		{api.ErrTest, func(n *api.Net) { n.Autos[0].Edges[0].Test = n.Autos[0].Edges[0].Test[1:] }},
		{api.ErrDiagonal, func(n *api.Net) { n.Autos[0].Edges[0].Guards[0].Other = 2 }},
		{api.ErrConst, func(n *api.Net) { n.Autos[1].Edges[1].Guards[0].N = api.MaxConst + 1 }},
		{api.ErrConst, func(n *api.Net) { n.Autos[0].Edges[2].Sets[0].N = -1 }},
	} {
		w := fault{said(t, rich), nil, c.err}
		c.change(&w.n)
		l = append(l, w)
	}
	for _, w := range l {
		if err := check.Net(w.n); err != w.err {
			t.Fatal(err, w.err)
		}
	}
	return l
}

// wrongGoals are goals that are not right for the rich network, by each of their errors.
func wrongGoals(t testing.TB) []fault {
	n := said(t, rich)
	var l []fault
	for _, c := range []struct {
		err    api.Errno
		change func(g *api.Goal)
	}{
		{api.ErrLong, func(g *api.Goal) { *g = make(api.Goal, api.MaxGoal+1) }},
		{api.ErrLong, func(g *api.Goal) { (*g)[2].Locs = make([]api.At, api.MaxGoal+1) }},
		{api.ErrLoc, func(g *api.Goal) { (*g)[0].Locs[1].Auto = 2 }},
		{api.ErrLoc, func(g *api.Goal) { (*g)[2].Locs[0].Loc = -1 }},
		{api.ErrClock, func(g *api.Goal) { (*g)[0].Guards[0].Clock = 0 }},
		{api.ErrForm, func(g *api.Goal) { (*g)[1].Guards[0].Cmp = 6 }},
		{api.ErrTest, func(g *api.Goal) { (*g)[2].Test = (*g)[2].Test[1:] }},
		{api.ErrDiagonal, func(g *api.Goal) { (*g)[1].Guards[0].Other = 2 }},
		{api.ErrConst, func(g *api.Goal) { (*g)[0].Guards[0].N = -1 }},
		{api.ErrConst, func(g *api.Goal) { (*g)[1].Guards[0].N = api.MaxConst + 1 }},
	} {
		w := fault{n, aim(t, n, richGoal), c.err}
		c.change(&w.g)
		if err := check.Goal(n, w.g); err != c.err {
			t.Fatal(err, c.err)
		}
		l = append(l, w)
	}
	return l
}

// exact is a valuation in exact numbers.
type exact []*big.Rat

func exactOf(v []api.Rat) exact {
	var l exact
	for _, x := range v {
		l = append(l, big.NewRat(x.Num, x.Den))
	}
	return l
}

// rats are the fractions of a valuation.
func (v exact) rats() []api.Rat {
	var l []api.Rat
	for _, x := range v {
		l = append(l, api.Rat{Num: x.Num().Int64(), Den: x.Denom().Int64()})
	}
	return l
}

func (v exact) wait(d *big.Rat) exact {
	var l exact
	for _, x := range v {
		l = append(l, new(big.Rat).Add(x, d))
	}
	return l
}

func (v exact) set(clock, n int) exact {
	l := slices.Clone(v)
	l[clock-1] = whole(n)
	return l
}

// holds tells whether all guards hold.
func (v exact) holds(l ...api.Guard) bool {
	for _, g := range l {
		c := v[g.Clock-1].Cmp(whole(g.N))
		if ![]bool{api.Lt: c < 0, api.Le: c <= 0, api.Eq: c == 0, api.Ge: c >= 0, api.Gt: c > 0}[g.Cmp] {
			return false
		}
	}
	return true
}

func whole(n int) *big.Rat { return big.NewRat(int64(n), 1) }

// top is a clock's constant, -1 counting as 0.
func top(most int) int { return max(most, 0) }

// cut is the whole part, and the fraction, of a number that is not below 0.
func cut(x *big.Rat) (int, *big.Rat) {
	floor := new(big.Int).Quo(x.Num(), x.Denom())
	return int(floor.Int64()), new(big.Rat).Sub(x, new(big.Rat).SetInt(floor))
}

// isAbove tells of each clock of a valuation whether it is above its constant.
func (v exact) isAbove(most []int, i int) bool { return v[i].Cmp(whole(top(most[i]))) > 0 }

// wantOf is the region of a valuation, by the words: fractions are counted.
func wantOf(v exact, most []int) Region {
	var r Region
	for i, x := range v {
		if v.isAbove(most, i) {
			r.Whole, r.Rank = append(r.Whole, top(most[i])+1), append(r.Rank, 0)
			continue
		}
		floor, part := cut(x)
		smaller := map[string]int{}
		for k, y := range v {
			if _, other := cut(y); !v.isAbove(most, k) && other.Sign() > 0 && other.Cmp(part) < 0 {
				smaller[other.RatString()]++
			}
		}
		rank := 0
		if part.Sign() > 0 {
			rank = 1 + len(smaller)
		}
		r.Whole, r.Rank = append(r.Whole, floor), append(r.Rank, rank)
	}
	return r
}

// next is the valuation a little later, in the next region: where a clock is at a whole number, halfway to the first that is come to; else there.
func (v exact) next(most []int) exact {
	var first *big.Rat
	at := false
	for i, x := range v {
		if v.isAbove(most, i) {
			continue
		}
		_, part := cut(x)
		at = at || part.Sign() == 0
		if left := new(big.Rat).Sub(whole(1), part); first == nil || left.Cmp(first) < 0 {
			first = left
		}
	}
	switch {
	case first == nil:
		return v
	case at:
		first = new(big.Rat).Mul(first, big.NewRat(1, 2))
	}
	return v.wait(first)
}

// isRight tells whether a region is right, by the words.
func isRight(r Region, most []int) bool {
	if len(r.Whole) != len(most) || len(r.Rank) != len(most) {
		return false
	}
	greatest := 0
	for i, m := range most {
		if r.Whole[i] < 0 || r.Whole[i] > top(m)+1 || r.Whole[i] >= top(m) && r.Rank[i] != 0 || r.Rank[i] < 0 {
			return false
		}
		greatest = max(greatest, r.Rank[i])
	}
	for k := 1; k <= greatest && k <= len(most); k++ {
		if !slices.Contains(r.Rank, k) {
			return false
		}
	}
	return greatest <= len(most)
}

// wantPoint is the valuation that Point must tell, of a right region.
func wantPoint(r Region, most []int) exact {
	var v exact
	for i, m := range most {
		if r.Whole[i] > top(m) {
			v = append(v, whole(top(m)+1))
			continue
		}
		v = append(v, new(big.Rat).Add(whole(r.Whole[i]), big.NewRat(int64(r.Rank[i]), int64(slices.Max(r.Rank))+1)))
	}
	return v
}

// eachRegion hands all regions of constants, and such as are near them and not right, to a function.
func eachRegion(most []int, try func(r Region)) {
	r := Region{make([]int, len(most)), make([]int, len(most))}
	var fill func(i int)
	fill = func(i int) {
		if i == len(most) {
			try(r)
			return
		}
		for r.Whole[i] = -1; r.Whole[i] <= top(most[i])+2; r.Whole[i]++ {
			for r.Rank[i] = -1; r.Rank[i] <= len(most)+1; r.Rank[i]++ {
				fill(i + 1)
			}
		}
	}
	fill(0)
}

// tables are constants whose regions are few enough to look at all.
func tables() [][]int {
	return [][]int{{}, {-1}, {0}, {1}, {3}, {0, 0}, {-1, 2}, {1, 1}, {2, 1}, {3, 0}, {1, 1, 1}, {2, 0, 1}, {-1, 1, 2}}
}

// spot is a node: a state's bytes, a region's text, and a valuation of it.
type spot struct {
	key, region string
	v           exact
}

func (s spot) name() string { return s.key + s.region }

// wantReach is Reach by the words, of a right network and goal: over valuations, each the first one of its region that was come to.
func wantReach(n api.Net, g api.Goal) (api.Verdict, int, api.Errno) {
	most := check.Max(n, g)
	var queue []spot
	seen := map[string]bool{}
	over := false
	add := func(s api.State, v exact) {
		key, _ := state.Key(n, s)
		r := wantOf(v, most)
		at := spot{string(key), textOf(r), wantPoint(r, most)}
		switch {
		case !v.holds(invariantsOf(n, s)...) || seen[at.name()]:
		case len(queue) == api.MaxRegions:
			over = true
		default:
			seen[at.name()] = true
			queue = append(queue, at)
		}
	}
	first, _ := state.First(n)
	begin := exact{}
	for range most {
		begin = append(begin, new(big.Rat))
	}
	add(first, begin)
	for i := 0; i < len(queue); i++ {
		s, _ := state.Of(n, []byte(queue[i].key))
		v := queue[i].v
		if slices.ContainsFunc(g, func(p api.Part) bool { return isMet(s, v, p) }) {
			return api.Reachable, i + 1, api.OK
		}
		if mayPass(n, s) {
			// Where all are above it is this one again, which was seen.
			add(s, v.next(most))
		}
		for _, m := range moves.Enabled(n, s) {
			if !v.holds(guardsOf(n, m)...) {
				continue
			}
			behind := v
			for _, x := range setsOf(n, m) {
				behind = behind.set(x.Clock, x.N)
			}
			next, _ := moves.After(n, s, m)
			add(next, behind)
		}
	}
	if over {
		return api.Unknown, 0, api.ErrFull
	}
	return api.Unreachable, len(queue), api.OK
}

// isMet tells whether a part holds; its test is such as someGoal makes, or none.
func isMet(s api.State, v exact, p api.Part) bool {
	for _, at := range p.Locs {
		if s.Locs[at.Auto] != at.Loc {
			return false
		}
	}
	return v.holds(p.Guards...) && (len(p.Test) == 0 || s.Vars[p.Test[1].N] == p.Test[2].N)
}

// edgesOf are the edges of a move, the sender's first.
func edgesOf(n api.Net, m api.Move) []api.Edge {
	l := []api.Edge{n.Autos[m.Auto].Edges[m.Edge]}
	if m.With > 0 {
		l = append(l, n.Autos[m.With-1].Edges[m.Take])
	}
	return l
}

func guardsOf(n api.Net, m api.Move) []api.Guard {
	var l []api.Guard
	for _, e := range edgesOf(n, m) {
		l = append(l, e.Guards...)
	}
	return l
}

func setsOf(n api.Net, m api.Move) []api.Set {
	var l []api.Set
	for _, e := range edgesOf(n, m) {
		for _, s := range e.Sets {
			if s.Clock > 0 {
				l = append(l, s)
			}
		}
	}
	return l
}

func invariantsOf(n api.Net, s api.State) []api.Guard {
	var l []api.Guard
	for i, a := range n.Autos {
		l = append(l, a.Locs[s.Locs[i]].Inv...)
	}
	return l
}

func mayPass(n api.Net, s api.State) bool {
	for i, a := range n.Autos {
		if a.Locs[s.Locs[i]].Kind != api.Plain {
			return false
		}
	}
	return true
}

func someGuards(r *rand.Rand, clocks, top int) []api.Guard {
	var l []api.Guard
	for range r.IntN(3) {
		if clocks > 0 {
			l = append(l, api.Guard{Clock: 1 + r.IntN(clocks), Cmp: api.Cmp(1 + r.IntN(5)), N: r.IntN(top + 1)})
		}
	}
	return l
}

func someEdge(r *rand.Rand, n api.Net, locs, top int) api.Edge {
	e := api.Edge{From: r.IntN(locs), To: r.IntN(locs), Guards: someGuards(r, len(n.Clocks), top), Chan: r.IntN(len(n.Chans) + 1)}
	e.Send = e.Chan > 0 && r.IntN(2) == 0
	for range r.IntN(3) {
		if len(n.Clocks) > 0 {
			// Now and then to more than any clock is held against.
			e.Sets = append(e.Sets, api.Set{Clock: 1 + r.IntN(len(n.Clocks)), N: r.IntN(top+3) * r.IntN(2)})
		}
	}
	if len(n.Vars) > 0 && r.IntN(2) == 0 {
		v := r.IntN(len(n.Vars))
		e.Sets = append(e.Sets, api.Set{Var: v, Expr: []api.Node{{Op: api.Add}, {Op: api.Var, N: v}, {Op: api.Num, N: 1}}})
		e.Test = []api.Node{{Op: api.Less}, {Op: api.Var}, {Op: api.Num, N: 1 + r.IntN(2)}}
	}
	return e
}

// someNet is a right network with so many clocks, whose guards' numbers are at most top.
func someNet(r *rand.Rand, clocks, top int) api.Net {
	n := api.Net{Clocks: []string{"x", "y", "z", "w"}[:clocks], Chans: []string{"c", "d"}[:r.IntN(3)]}
	for _, name := range []string{"n", "m"}[:r.IntN(3)] {
		n.Vars = append(n.Vars, api.Variable{Name: name, Hi: 2})
	}
	for _, name := range []string{"A", "B", "C"}[:1+r.IntN(3)] {
		a := api.Auto{Name: name}
		for i := range 1 + r.IntN(3) {
			a.Locs = append(a.Locs, api.Loc{Name: fmt.Sprint("l", i), Kind: api.LocKind(max(0, r.IntN(12)-9))})
			if r.IntN(3) == 0 {
				a.Locs[i].Inv = someGuards(r, clocks, top)
			}
		}
		for range 2 + r.IntN(6) {
			a.Edges = append(a.Edges, someEdge(r, n, len(a.Locs), top))
		}
		n.Autos = append(n.Autos, a)
	}
	return n
}

// someGoal is a right goal of few parts, or of none, that seldom holds at the beginning.
func someGoal(r *rand.Rand, n api.Net, top int) api.Goal {
	var g api.Goal
	for range r.IntN(4) {
		p := api.Part{Guards: append(someGuards(r, len(n.Clocks), top), someGuards(r, len(n.Clocks), top)...)}
		for i, a := range n.Autos {
			if r.IntN(4) > 0 {
				p.Locs = append(p.Locs, api.At{Auto: i, Loc: len(a.Locs) - 1 - r.IntN(2)*r.IntN(len(a.Locs))})
			}
		}
		if len(n.Vars) > 0 && r.IntN(3) > 0 {
			p.Test = []api.Node{{Op: api.Equal}, {Op: api.Var, N: r.IntN(len(n.Vars))}, {Op: api.Num, N: r.IntN(3)}}
		}
		g = append(g, p)
	}
	return g
}

// memory is a piece of memory that a list has, its spare room included.
type memory struct{ from, to uintptr }

// memories are those of all lists of a value.
func memories(v reflect.Value) []memory {
	var l []memory
	switch v.Kind() {
	case reflect.Slice:
		if v.Cap() > 0 {
			l = append(l, memory{v.Pointer(), v.Pointer() + uintptr(v.Cap())*v.Type().Elem().Size()})
		}
		for i := range v.Len() {
			l = append(l, memories(v.Index(i))...)
		}
	case reflect.Struct:
		for i := range v.NumField() {
			l = append(l, memories(v.Field(i))...)
		}
	}
	return l
}

// shared tells whether two of the lists of some values lie in one another.
func shared(values ...any) bool {
	var l []memory
	for _, v := range values {
		l = append(l, memories(reflect.ValueOf(v))...)
	}
	slices.SortFunc(l, func(a, b memory) int { return cmp.Compare(a.from, b.from) })
	for i := 1; i < len(l); i++ {
		if l[i].from < l[i-1].to {
			return true
		}
	}
	return false
}
