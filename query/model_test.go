package query

import (
	"cmp"
	"fmt"
	"math/rand/v2"
	"reflect"
	"slices"
	"strings"
	"testing"

	"gnomon/api"
	"gnomon/check"
	"gnomon/moves"
	"gnomon/net"
	"gnomon/parse"
	"gnomon/run"
	"gnomon/search"
	"gnomon/state"
	"gnomon/succ"
	"gnomon/times"
)

func source(seed uint64) *rand.Rand { return rand.New(rand.NewPCG(22, seed)) }

// said is the network that a text says.
func said(t testing.TB, s string) api.Net {
	t.Helper()
	n, err, at := parse.Net(s)
	if err != api.OK {
		t.Fatal(s, err, at)
	}
	return n
}

// aim is the goal that a text says; of no text that of no part.
func aim(t testing.TB, n api.Net, s string) api.Goal {
	t.Helper()
	if s == "" {
		return nil
	}
	g, err, at := parse.Goal(n, s)
	if err != api.OK {
		t.Fatal(s, err, at)
	}
	return g
}

func uniform(t testing.TB, n api.Net, most ...int) api.Plan {
	t.Helper()
	p, err := succ.Uniform(n, most)
	if err != api.OK {
		t.Fatal(most, err)
	}
	return p
}

const small = "clock x; auto A { loc a inv x <= 5; loc b; edge a -> b when x >= 3 do x := 0; }"

// rich has something of everything.
const rich = `clock x, y; int n in 0 .. 3 := 0; int m in -9 .. 9 := 2; chan c, d;
	auto A {
		loc a inv x <= 5; loc b inv y < 7 && x >= 1; loc k committed;
		edge a -> b when x >= 3 && n < 3 sync c! do x := 1, n := n + 1, y := 2;
		edge a -> k when n == 0 && x > 1 do m := 0 - m, x := 7;
		edge k -> a do y := 0;
		edge b -> a when y == 4 sync d!;
	}
	auto B {
		loc a; loc u urgent inv y <= 6; loc b inv x <= 9;
		edge a -> u when y < 4 && m > 0 sync c? do m := m * 2, x := 3;
		edge u -> b when x >= 2;
		edge b -> a sync d? do y := 5, y := 1;
	}`

// richGoal has parts of all kinds.
const richGoal = "A.b && B.b && y > 12 || x >= 20 && n == 2 || A.k && m < 0 && n > 0"

// fischer is Fischer's protocol: who has written its number last, and waits for more than the others may take to write theirs, goes in.
func fischer(many int, wait string) string {
	var text strings.Builder
	fmt.Fprint(&text, "clock x0")
	for i := 1; i < many; i++ {
		fmt.Fprint(&text, ", x", i)
	}
	fmt.Fprintf(&text, "; int id in 0 .. %d := 0;\n", many)
	for i := range many {
		fmt.Fprintf(&text, `auto P%[1]d { loc idle; loc try inv x%[1]d <= 2; loc wait; loc crit;
			edge idle -> try when id == 0 do x%[1]d := 0;
			edge try -> wait do x%[1]d := 0, id := %[2]d;
			edge wait -> crit when x%[1]d %[3]s && id == %[2]d;
			edge wait -> try when id == 0 do x%[1]d := 0;
			edge crit -> idle do id := 0; }
`, i, i+1, wait)
	}
	return text.String()
}

// wrong is a network and a goal, and their error.
type wrong struct {
	n   api.Net
	g   api.Goal
	err api.Errno
}

// wrongNets are networks that are not right, by each of the errors of chapters 10 and 12.
func wrongNets(t testing.TB) []wrong {
	l := []wrong{{err: api.ErrRange}, {n: api.Net{Clocks: []string{"x", "y"}}, err: api.ErrRange}}
	for _, c := range []struct {
		err    api.Errno
		change func(n *api.Net)
	}{
		{api.ErrRange, func(n *api.Net) { n.Autos[1].Locs = nil }},
		{api.ErrLong, func(n *api.Net) { n.Clocks = slices.Repeat(n.Clocks, 5) }},
		{api.ErrName, func(n *api.Net) { n.Autos[0].Name = "n" }},
		{api.ErrVar, func(n *api.Net) { n.Vars[0].Init = 4 }},
		{api.ErrLoc, func(n *api.Net) { n.Autos[0].Locs[2].Kind = 3 }},
		{api.ErrEdge, func(n *api.Net) { n.Autos[0].Edges[0].To = 3 }},
		{api.ErrClock, func(n *api.Net) { n.Autos[0].Locs[0].Inv[0].Clock = 3 }},
		{api.ErrForm, func(n *api.Net) { n.Autos[0].Edges[0].Guards[0].Cmp = 0 }},
		{api.ErrTest, func(n *api.Net) { n.Autos[0].Edges[0].Test = n.Autos[0].Edges[0].Test[1:] }},
		{api.ErrDiagonal, func(n *api.Net) { n.Autos[0].Edges[0].Guards[0].Other = 2 }},
		{api.ErrConst, func(n *api.Net) { n.Autos[1].Edges[1].Guards[0].N = api.MaxConst + 1 }},
		{api.ErrConst, func(n *api.Net) { n.Autos[0].Edges[2].Sets[0].N = -1 }},
	} {
		w := wrong{said(t, rich), nil, c.err}
		c.change(&w.n)
		l = append(l, w)
	}
	for _, w := range l {
		if err := check.Net(w.n); err != w.err {
			t.Fatal(err, w.err)
		}
	}
	return l
}

// wrongGoals are goals that are not right for the rich network, by each of their errors.
func wrongGoals(t testing.TB) []wrong {
	n := said(t, rich)
	var l []wrong
	for _, c := range []struct {
		err    api.Errno
		change func(g *api.Goal)
	}{
		{api.ErrLong, func(g *api.Goal) { *g = make(api.Goal, api.MaxGoal+1) }},
		{api.ErrLong, func(g *api.Goal) { (*g)[2].Locs = make([]api.At, api.MaxGoal+1) }},
		{api.ErrLoc, func(g *api.Goal) { (*g)[0].Locs[1].Auto = 2 }},
		{api.ErrLoc, func(g *api.Goal) { (*g)[2].Locs[0].Loc = -1 }},
		{api.ErrClock, func(g *api.Goal) { (*g)[0].Guards[0].Clock = 0 }},
		{api.ErrForm, func(g *api.Goal) { (*g)[1].Guards[0].Cmp = 6 }},
		{api.ErrTest, func(g *api.Goal) { (*g)[2].Test = (*g)[2].Test[1:] }},
		{api.ErrDiagonal, func(g *api.Goal) { (*g)[1].Guards[0].Other = 2 }},
		{api.ErrConst, func(g *api.Goal) { (*g)[0].Guards[0].N = -1 }},
		{api.ErrConst, func(g *api.Goal) { (*g)[1].Guards[0].N = api.MaxConst + 1 }},
	} {
		w := wrong{n, aim(t, n, richGoal), c.err}
		c.change(&w.g)
		if err := check.Goal(n, w.g); err != c.err {
			t.Fatal(err, c.err)
		}
		l = append(l, w)
	}
	return l
}

// wrongPlans are plans with rows that are not right for the rich network.
func wrongPlans(t testing.TB) []api.Plan {
	var l []api.Plan
	for _, change := range []func(p *api.Plan){
		func(p *api.Plan) { p.Lo = nil },
		func(p *api.Plan) { p.Up = [][][]int{} },
		func(p *api.Plan) { p.Lo = p.Lo[1:] },
		func(p *api.Plan) { p.Up = append(p.Up, p.Up[0]) },
		func(p *api.Plan) { p.Lo, p.Up = append(p.Lo, nil), append(p.Up, nil) },
		func(p *api.Plan) { p.Lo, p.Up = make([][][]int, 1), nil },
		func(p *api.Plan) { p.Up[1] = nil },
		func(p *api.Plan) { p.Lo[1] = p.Lo[1][:2] },
		func(p *api.Plan) { p.Up[0] = append(p.Up[0], p.Up[0][0]) },
		func(p *api.Plan) { p.Lo[0][2] = nil },
		func(p *api.Plan) { p.Up[1][2] = p.Up[1][2][:1] },
		func(p *api.Plan) { p.Lo[1][0] = append(p.Lo[1][0], 3) },
		func(p *api.Plan) { p.Lo[0][0][0] = -2 },
		func(p *api.Plan) { p.Up[1][2][1] = api.MaxConst + 1 },
	} {
		p := uniform(t, said(t, rich), 9, 9)
		change(&p)
		l = append(l, p)
	}
	return l
}

func someGuards(r *rand.Rand, clocks, top int) []api.Guard {
	var l []api.Guard
	for range r.IntN(3) {
		if clocks > 0 {
			l = append(l, api.Guard{Clock: 1 + r.IntN(clocks), Cmp: api.Cmp(1 + r.IntN(5)), N: r.IntN(top + 1)})
		}
	}
	return l
}

func someEdge(r *rand.Rand, n api.Net, locs, top int) api.Edge {
	e := api.Edge{From: r.IntN(locs), To: r.IntN(locs), Guards: someGuards(r, len(n.Clocks), top), Chan: r.IntN(len(n.Chans) + 1)}
	e.Send = e.Chan > 0 && r.IntN(2) == 0
	for range r.IntN(3) {
		if len(n.Clocks) > 0 {
			e.Sets = append(e.Sets, api.Set{Clock: 1 + r.IntN(len(n.Clocks)), N: r.IntN(top+1) * r.IntN(2)})
		}
	}
	if len(n.Vars) > 0 && r.IntN(2) == 0 {
		v := r.IntN(len(n.Vars))
		e.Sets = append(e.Sets, api.Set{Var: v, Expr: []api.Node{{Op: api.Add}, {Op: api.Var, N: v}, {Op: api.Num, N: 1}}})
		e.Test = []api.Node{{Op: api.Less}, {Op: api.Var}, {Op: api.Num, N: 1 + r.IntN(2)}}
	}
	return e
}

// someNet is a right network with so many clocks, whose numbers are at most top.
func someNet(r *rand.Rand, clocks, top int) api.Net {
	n := api.Net{Clocks: []string{"x", "y", "z", "w"}[:clocks], Chans: []string{"c", "d"}[:r.IntN(3)]}
	for _, name := range []string{"n", "m"}[:r.IntN(3)] {
		n.Vars = append(n.Vars, api.Variable{Name: name, Hi: 2})
	}
	for _, name := range []string{"A", "B", "C"}[:1+r.IntN(3)] {
		a := api.Auto{Name: name}
		for i := range 1 + r.IntN(3) {
			a.Locs = append(a.Locs, api.Loc{Name: fmt.Sprint("l", i), Kind: api.LocKind(max(0, r.IntN(12)-9))})
			if r.IntN(3) == 0 {
				a.Locs[i].Inv = someGuards(r, clocks, top)
			}
		}
		for range 2 + r.IntN(6) {
			a.Edges = append(a.Edges, someEdge(r, n, len(a.Locs), top))
		}
		n.Autos = append(n.Autos, a)
	}
	return n
}

// someGoal is a right goal of few parts, or of none, that seldom holds at the beginning.
func someGoal(r *rand.Rand, n api.Net, top int) api.Goal {
	var g api.Goal
	for range r.IntN(4) {
		p := api.Part{Guards: append(someGuards(r, len(n.Clocks), top), someGuards(r, len(n.Clocks), top)...)}
		for i, a := range n.Autos {
			if r.IntN(4) > 0 {
				p.Locs = append(p.Locs, api.At{Auto: i, Loc: len(a.Locs) - 1 - r.IntN(2)*r.IntN(len(a.Locs))})
			}
		}
		if len(n.Vars) > 0 && r.IntN(3) > 0 {
			p.Test = []api.Node{{Op: api.Equal}, {Op: api.Var, N: r.IntN(len(n.Vars))}, {Op: api.Num, N: r.IntN(3)}}
		}
		g = append(g, p)
	}
	return g
}

// everywhere are the same numbers in each place of a plan.
func everywhere(n api.Net, numbers []int) [][][]int {
	var l [][][]int
	for _, a := range n.Autos {
		l = append(l, slices.Repeat([][]int{numbers}, len(a.Locs)))
	}
	return l
}

// rightPlans are plans of which the document says that the verdict is the same.
func rightPlans(t testing.TB, r *rand.Rand, n api.Net, g api.Goal) []api.Plan {
	t.Helper()
	most := check.Max(n, g)
	higher := slices.Clone(most)
	for c := range higher {
		higher[c] += 1 + r.IntN(2)
	}
	return []api.Plan{{}, uniform(t, n, most...), uniform(t, n, higher...), {Lo: everywhere(n, check.Lower(n, g)), Up: everywhere(n, check.Upper(n, g))}}
}

// edgesOf are the edges of a move, the sender's first.
func edgesOf(n api.Net, m api.Move) []api.Edge {
	l := []api.Edge{n.Autos[m.Auto].Edges[m.Edge]}
	if m.With > 0 {
		l = append(l, n.Autos[m.With-1].Edges[m.Take])
	}
	return l
}

func guardsOf(n api.Net, m api.Move) []api.Guard {
	var l []api.Guard
	for _, e := range edgesOf(n, m) {
		l = append(l, e.Guards...)
	}
	return l
}

func setsOf(n api.Net, m api.Move) []api.Set {
	var l []api.Set
	for _, e := range edgesOf(n, m) {
		for _, s := range e.Sets {
			if s.Clock > 0 {
				l = append(l, s)
			}
		}
	}
	return l
}

func invariantsOf(n api.Net, s api.State) []api.Guard {
	var l []api.Guard
	for i, a := range n.Autos {
		l = append(l, a.Locs[s.Locs[i]].Inv...)
	}
	return l
}

func mayPass(n api.Net, s api.State) bool {
	for i, a := range n.Autos {
		if a.Locs[s.Locs[i]].Kind != api.Plain {
			return false
		}
	}
	return true
}

// isThere tells whether a part's locations and test hold of a state; tests are such as someGoal makes, or none.
func isThere(s api.State, g api.Part) bool {
	for _, at := range g.Locs {
		if s.Locs[at.Auto] != at.Loc {
			return false
		}
	}
	return len(g.Test) == 0 || s.Vars[g.Test[1].N] == g.Test[2].N
}

// isSo tells whether what is below (-1), at (0) or above (1) a number is held against it so.
func isSo(c int, how api.Cmp) bool {
	return []bool{api.Lt: c < 0, api.Le: c <= 0, api.Eq: c == 0, api.Ge: c >= 0, api.Gt: c > 0}[how]
}

// clocks is how many clocks a region has at most.
const clocks = 3

// above is the whole part of a clock that is above all that it is held against.
const above = -1

// region is valuations that no guard tells apart, now or later: of each clock its whole part, and whose fractions are greater; rank 0: it has none.
type region struct {
	whole, rank [clocks]int
}

// even gives the ranks the least numbers that have their order.
func (g region) even() region {
	var l []int
	for c := range g.rank {
		if g.whole[c] == above {
			g.rank[c] = 0
		}
		if g.rank[c] > 0 {
			l = append(l, g.rank[c])
		}
	}
	slices.Sort(l)
	l = slices.Compact(l)
	for c, rank := range g.rank {
		if rank > 0 {
			g.rank[c] = 1 + slices.Index(l, rank)
		}
	}
	return g
}

func (g region) set(most []int, c, n int) region {
	g.whole[c], g.rank[c] = n, 0
	if n > most[c] {
		g.whole[c] = above
	}
	return g.even()
}

// later is the next region when time passes; false: it is this one for ever.
func (g region) later(most []int) (region, bool) {
	top := 0
	for c := range most {
		top = max(top, g.rank[c])
	}
	next, at := g, false
	for c := range most {
		switch {
		case g.whole[c] == above:
		case g.rank[c] > 0:
			next.rank[c]++
		case g.whole[c] == most[c]:
			next.whole[c], at = above, true
		default:
			next.rank[c], at = 1, true
		}
	}
	if at {
		return next.even(), true
	}
	for c := range most {
		if top > 0 && g.rank[c] == top {
			g.whole[c], g.rank[c] = g.whole[c]+1, 0
		}
	}
	return g.even(), top > 0
}

func (g region) holds(l ...api.Guard) bool {
	for _, x := range l {
		c := 1
		if whole := g.whole[x.Clock-1]; whole != above {
			c = cmp.Or(cmp.Compare(whole, x.N), g.rank[x.Clock-1])
		}
		if !isSo(c, x.Cmp) {
			return false
		}
	}
	return true
}

// spot is a state and a region.
type spot struct {
	key string
	region
}

// byRegions is the verdict, found region by region; Unknown, if there are too many. Goals are such as someGoal makes.
func byRegions(n api.Net, g api.Goal, most []int) api.Verdict {
	first, _ := state.First(n)
	var begin region
	for c := range most {
		begin = begin.set(most, c, 0)
	}
	var all []spot
	seen := map[spot]bool{}
	add := func(s api.State, r region) {
		key, _ := state.Key(n, s)
		if at := (spot{string(key), r}); r.holds(invariantsOf(n, s)...) && !seen[at] {
			seen[at] = true
			all = append(all, at)
		}
	}
	add(first, begin)
	for i := 0; i < len(all); i++ {
		if i > 20000 {
			return api.Unknown
		}
		s, _ := state.Of(n, []byte(all[i].key))
		r := all[i].region
		if slices.ContainsFunc(g, func(p api.Part) bool { return isThere(s, p) && r.holds(p.Guards...) }) {
			return api.Reachable
		}
		if later, some := r.later(most); some && mayPass(n, s) {
			add(s, later)
		}
		for _, m := range moves.Enabled(n, s) {
			if r.holds(guardsOf(n, m)...) {
				behind := r
				for _, x := range setsOf(n, m) {
					behind = behind.set(most, x.Clock-1, x.N)
				}
				next, _ := moves.After(n, s, m)
				add(next, behind)
			}
		}
	}
	return api.Unreachable
}

// asked is the question that a text asks.
func asked(t testing.TB, n api.Net, s string) Question {
	t.Helper()
	q, err, at := Parse(n, s)
	if err != api.OK {
		t.Fatal(s, err, at)
	}
	return q
}

// textOf is all that is told: numbers, and behind a colon the run's lines, with a comma between; nothing, if it has none.
func textOf(n api.Net, a Told) string {
	text := fmt.Sprint(a.Errno, a.Verdict, a.Holds, a.Stored, a.Pops, a.Part) + ":"
	if a.Run.Steps == nil && a.Run.Last == (api.Rat{}) {
		return text
	}
	lines, err := run.Print(n, a.Run)
	if err != api.OK {
		return text + fmt.Sprint(" no run: ", a.Run)
	}
	return text + " " + strings.ReplaceAll(strings.TrimSuffix(lines, "\n"), "\n", ", ")
}

// areTold holds what is told to its texts.
func areTold(t testing.TB, n api.Net, l []Told, want ...string) {
	t.Helper()
	var texts []string
	for _, a := range l {
		texts = append(texts, textOf(n, a))
	}
	if !slices.Equal(texts, want) {
		t.Errorf("%q, not %q", texts, want)
	}
}

// wantTold is what is told of a question by the words: a search that is gone pop by pop.
func wantTold(n api.Net, q Question, w Way) Told {
	s, err := search.New(n, q.Goal, w.Plan, w.Last)
	if err != api.OK {
		return Told{Errno: err}
	}
	fuel := w.Fuel
	if fuel < 1 {
		fuel = api.MaxZones + 1
	}
	for s.Verdict() == api.Unknown && err != api.ErrZones && fuel > 0 {
		_, err = s.Go(1)
		fuel--
	}
	a := Told{Verdict: s.Verdict(), Stored: len(s.Nodes()), Pops: s.Pops()}
	switch a.Verdict {
	case api.Unknown:
		a.Errno = err
	case api.Unreachable:
		a.Holds = q.Never
	case api.Reachable:
		a.Holds = !q.Never
		l := s.Nodes()
		i, part := s.Found()
		var way []api.Move
		for ; l[i].Parent != -1; i = l[i].Parent {
			way = append([]api.Move{l[i].Move}, way...)
		}
		a.Part = part
		a.Run, _ = times.Run(n, way, q.Goal[part])
	}
	return a
}

// isAlike tells whether two questions are the same, all of them.
func isAlike(a, b Question) bool { return a.Never == b.Never && net.SameGoal(a.Goal, b.Goal) }

// memory is a piece of memory that a list has, its spare room included.
type memory struct{ from, to uintptr }

// memories are those of all lists of a value.
func memories(v reflect.Value) []memory {
	var l []memory
	switch v.Kind() {
	case reflect.Slice:
		if v.Cap() > 0 {
			l = append(l, memory{v.Pointer(), v.Pointer() + uintptr(v.Cap())*v.Type().Elem().Size()})
		}
		for i := range v.Len() {
			l = append(l, memories(v.Index(i))...)
		}
	case reflect.Struct:
		for i := range v.NumField() {
			l = append(l, memories(v.Field(i))...)
		}
	}
	return l
}

// shared tells whether two of the lists of some values lie in one another.
func shared(values ...any) bool {
	var l []memory
	for _, v := range values {
		l = append(l, memories(reflect.ValueOf(v))...)
	}
	slices.SortFunc(l, func(a, b memory) int { return cmp.Compare(a.from, b.from) })
	for i := 1; i < len(l); i++ {
		if l[i].from < l[i-1].to {
			return true
		}
	}
	return false
}
