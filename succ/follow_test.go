package succ

import (
	"fmt"
	"math"
	"math/rand/v2"
	"slices"
	"strings"
	"testing"

	"gnomon/api"
	"gnomon/check"
	"gnomon/dbm"
	"gnomon/moves"
	"gnomon/net"
	"gnomon/ops"
	"gnomon/passed"
	"gnomon/state"
)

// far and wide are zones of two clocks with cells as great as may be: y is MaxBound or more above x; at most MaxBound above it.
const (
	far  = "2: x0-x2<=-268435456 x1-x2<=-268435456"
	wide = "2: x2-x1<=268435456"
)

// TestP15Bound (E3): ErrBound, if a zone on the way is not empty and has a finite cell that may not be.
func TestP15Bound(t *testing.T) {
	for _, c := range []struct {
		edge, behind, from string
		exactly, wait      api.Errno
	}{
		{"when x >= 0", "", far, api.OK, api.OK},
		{"when x >= 1", "", far, api.ErrBound, api.ErrBound},
		{"when x > 0", "", far, api.OK, api.OK},
		{"when x > 1", "", far, api.ErrBound, api.ErrBound},
		{"when x <= 0", "", wide, api.OK, api.OK},
		{"when x < 1", "", wide, api.ErrBound, api.ErrBound},
		{"when x <= 1", "", wide, api.ErrBound, api.ErrBound},
		// An empty zone has no such cell; guards are kept together.
		{"when x >= 3 && x < 2", "", far, api.OK, api.OK},
		{"when x >= 3 && y <= 9", "", far, api.OK, api.OK},
		{"when x >= 3", "", "2: empty", api.OK, api.OK},
		// What becomes of it further on does not matter.
		{"when x >= 3 do y := 0", "", far, api.ErrBound, api.ErrBound},
		{"when x >= 3", "inv x <= 2", far, api.ErrBound, api.ErrBound},
		{"when x <= 3 do x := 0, y := 0", "", wide, api.ErrBound, api.ErrBound},
		// Sets never pass the bound, whatever they are set to.
		{"do x := 1048576", "", far, api.OK, api.OK},
		{"do x := 1048576", "", wide, api.OK, api.OK},
		{"do y := 1048576, x := 3", "", far, api.OK, api.OK},
		// Invariants behind the move.
		{"", "inv x >= 1", far, api.ErrBound, api.ErrBound},
		{"", "urgent inv x >= 1", far, api.ErrBound, api.ErrBound},
		{"", "inv x <= 1", wide, api.ErrBound, api.ErrBound},
		{"", "inv x >= 1 && y <= 5", far, api.OK, api.OK},
		{"do x := 5", "inv x >= 1", far, api.OK, api.OK},
		{"do y := 5", "inv x >= 1", far, api.OK, api.OK},
		// Invariants when time has passed: ahead of that all is within the bounds.
		{"when x <= 0", "inv x <= 5", wide, api.OK, api.ErrBound},
		{"when x <= 0", "inv x <= 0", wide, api.OK, api.OK},
		{"when x <= 0", "urgent inv x <= 5", wide, api.OK, api.OK},
		{"when x <= 0", "committed inv x <= 5", wide, api.OK, api.OK},
		{"when x <= 0 do y := 0", "inv x <= 5", wide, api.OK, api.OK},
		{"when x <= 0 && y >= 3", "inv x <= 5", wide, api.OK, api.ErrBound},
	} {
		n := said(t, "clock x, y; auto A { loc a; loc b "+c.behind+"; edge a -> b "+c.edge+"; }")
		z := zone(t, c.from)
		next, y, err := Exactly(n, at(0), z, api.Move{})
		isAnswer(t, next, y, err)(wantExactly(n, at(0), z, api.Move{}))
		if err != c.exactly {
			t.Error(c, "exactly", err)
		}
		for _, most := range []int{-1, 0, 9, api.MaxConst} {
			p := mustPlan(t)(Uniform(n, []int{most, most}))
			next, y, err := Behind(n, p, at(0), z, api.Move{})
			isAnswer(t, next, y, err)(wantBehind(n, p, at(0), z, api.Move{}))
			if err != c.wait {
				t.Error(c, "behind", err)
			}
		}
	}
	// The guards of both edges are one row: what the sender's leave is no zone on the way.
	n := said(t, "clock x, y; chan c; auto A { loc a; edge a -> a when x >= 3 sync c!; } auto B { loc a; loc b; edge a -> a when x < 2 sync c?; edge a -> b sync c?; }")
	next, y, err := Exactly(n, at(0, 0), zone(t, far), api.Move{With: 2})
	isAnswer(t, next, y, err)(at(0, 0), empty(t, 2), api.OK)
	next, y, err = Exactly(n, at(0, 0), zone(t, far), api.Move{With: 2, Take: 1})
	isAnswer(t, next, y, err)(api.State{}, nil, api.ErrBound)
}

// TestP15BoundWait (E3): Wait and Meets.
func TestP15BoundWait(t *testing.T) {
	n := said(t, "clock x, y; int n in 0 .. 1 := 0; auto A { loc a inv x <= 5; loc b inv x >= 1; loc u urgent inv x <= 5; loc c; }")
	in := func(loc int) api.State { return api.State{Locs: []int{loc}, Vars: []int{0}} }
	for _, c := range []struct {
		loc  int
		from string
		err  api.Errno
	}{
		{0, wide, api.ErrBound},
		{0, "2: x1-x0<=0 x1-x2<=0 x2-x0<=268435456 x2-x1<=268435456", api.ErrBound},
		{0, "2: x1-x0<=0 x1-x2<=0 x2-x0<=268435451 x2-x1<=268435451", api.OK},
		{0, "2: x1-x0<=0 x1-x2<=0 x2-x0<268435452 x2-x1<268435452", api.ErrBound},
		{0, "2: x0-x1<=-6", api.OK},
		{0, "2: empty", api.OK},
		{0, far, api.OK},
		{1, far, api.ErrBound},
		{1, wide, api.OK},
		{2, far, api.OK},
		{2, wide, api.OK},
		{3, far, api.OK},
		{3, wide, api.OK},
	} {
		z := zone(t, c.from)
		y, err := Wait(n, in(c.loc), z)
		isZone(t, y, err)(wantWait(n, in(c.loc), z))
		if err != c.err {
			t.Error(c, err)
		}
	}
	for _, c := range []struct {
		part, from string
		err        api.Errno
	}{
		{"A.c && x >= 1", far, api.ErrBound},
		{"A.c && x >= 1 && n == 0", far, api.ErrBound},
		{"A.c && x >= 1 && y < 7", far, api.OK},
		{"A.c && x <= 1", wide, api.ErrBound},
		{"A.c && x <= 1", far, api.OK},
		// Where the part does not hold, its guards are not asked for.
		{"A.a && x >= 1", far, api.OK},
		{"A.c && x >= 1 && n == 1", far, api.OK},
		{"A.c && x >= 1", "2: empty", api.OK},
	} {
		y, err := Meets(n, in(3), zone(t, c.from), aim(t, n, c.part))
		if err != c.err || (y == nil) != (err != api.OK) {
			t.Error(c, y.Print(), err)
		}
	}
}

// TestP15_4Exactly (E1): a valuation is in the zone just if one of z keeps the guards, is that one when the sets are done, and keeps the invariants.
func TestP15_4Exactly(t *testing.T) {
	counts := map[bool]int{}
	eachStep(t, 8, 400, 4, func(r *rand.Rand, c stepCase) {
		guards, sets := guardsOf(c.Net, c.m), setsOf(c.Net, c.m)
		next, y, err := Exactly(c.Net, c.s, c.z, c.m)
		if err != api.OK {
			t.Fatal(err)
		}
		for _, p := range somePlaces(r, c.point, sets) {
			want := p.isBehind(c.z, guards, sets) && p.holds(invariantsOf(c.Net, next)...)
			if p.in(y) != want {
				t.Fatal(c.z.Print(), guards, sets, y.Print(), p, want)
			}
			counts[want]++
			// One of z that can do the move comes into it.
			q := p.set(sets...)
			if p.in(c.z) && p.holds(guards...) && q.holds(invariantsOf(c.Net, next)...) && !q.in(y) {
				t.Fatal(c.z.Print(), y.Print(), p, q)
			}
		}
	})
	if counts[true] < 10000 || counts[false] < 10000 {
		t.Error(counts)
	}
}

// TestP15_4Wait (E1): a valuation is in the zone just if it is one of z some time later, with the invariants; where no time passes, just if it is one of z.
func TestP15_4Wait(t *testing.T) {
	counts := map[string]int{}
	eachStep(t, 9, 400, 4, func(r *rand.Rand, c stepCase) {
		y := must(t)(Wait(c.Net, c.s, c.z))
		passes := mayPass(c.Net, c.s)
		for _, p := range somePlaces(r, c.point, nil) {
			want := p.in(c.z)
			if passes {
				want = p.later(c.z) && p.holds(invariantsOf(c.Net, c.s)...)
			}
			if p.in(y) != want {
				t.Fatal(c.z.Print(), y.Print(), p, want, passes)
			}
			counts[fmt.Sprint(want, passes)]++
		}
	})
	for _, word := range []string{"true true", "false true", "true false", "false false"} {
		if counts[word] < 3000 {
			t.Error(word, counts)
		}
	}
}

// TestP15_5Includes: Behind includes Wait of Exactly, whatever the plan; with numbers that are great it is that.
func TestP15_5Includes(t *testing.T) {
	wider, same := 0, 0
	eachStep(t, 10, 300, 4, func(r *rand.Rand, c stepCase) {
		next, exact, err := Exactly(c.Net, c.s, c.z, c.m)
		if err != api.OK {
			t.Fatal(err)
		}
		exact = must(t)(Wait(c.Net, next, exact))
		p := somePlan(r, c.Net, 6)
		behind, y, err := Behind(c.Net, p, c.s, c.z, c.m)
		if err != api.OK || !alike(behind, next) || !y.Includes(exact) || y.Empty() != exact.Empty() {
			t.Fatal(y.Print(), exact.Print(), err)
		}
		if !exact.Includes(y) {
			wider++
		}
		great := mustPlan(t)(Uniform(c.Net, slices.Repeat([]int{1000}, len(c.Clocks))))
		if _, y, err = Behind(c.Net, great, c.s, c.z, c.m); err != api.OK || !y.Equal(exact) {
			t.Fatal(y.Print(), exact.Print(), err)
		}
		if !y.Empty() {
			same++
		}
	})
	if wider < 300 || same < 500 {
		t.Error(wider, same)
	}
}

// TestP15_6Greater: a greater zone leads to a greater one.
func TestP15_6Greater(t *testing.T) {
	greater := 0
	eachStep(t, 11, 300, 4, func(r *rand.Rand, c stepCase) {
		o, _ := someZone(t, r, len(c.Clocks), 4)
		big := must(t)(ops.Hull(c.z, o))
		p := somePlan(r, c.Net, 6)
		part := api.Part{Guards: someGuards(r, len(c.Clocks), 4)}
		var rows [2][]*dbm.Zone
		for k, z := range []*dbm.Zone{c.z, big} {
			_, a, err := Exactly(c.Net, c.s, z, c.m)
			_, b, err2 := Behind(c.Net, p, c.s, z, c.m)
			if err != api.OK || err2 != api.OK {
				t.Fatal(err, err2)
			}
			rows[k] = []*dbm.Zone{a, b, must(t)(Wait(c.Net, c.s, z)), must(t)(Meets(c.Net, c.s, z, part))}
		}
		for k, z := range rows[0] {
			if !rows[1][k].Includes(z) {
				t.Fatal(k, z.Print(), rows[1][k].Print())
			}
			if !rows[1][k].Equal(z) {
				greater++
			}
		}
	})
	if greater < 500 {
		t.Error(greater)
	}
}

// TestP15_7Empty: where a zone is empty behind a move, no valuation of it can do the move; where it is not, one can.
func TestP15_7Empty(t *testing.T) {
	counts := map[bool]int{}
	eachStep(t, 12, 500, 4, func(r *rand.Rand, c stepCase) {
		next, y, err := Exactly(c.Net, c.s, c.z, c.m)
		if err != api.OK {
			t.Fatal(err)
		}
		// Invariants of clocks that are set hold or not whatever z has; those of others must hold ahead of the move.
		sets := setsOf(c.Net, c.m)
		ahead, can := guardsOf(c.Net, c.m), true
		behind := place{1, make([]int64, len(c.Clocks)+1)}.set(sets...)
		for _, g := range invariantsOf(c.Net, next) {
			if slices.ContainsFunc(sets, func(s api.Set) bool { return s.Clock == g.Clock }) {
				can = can && behind.holds(g)
			} else {
				ahead = append(ahead, g)
			}
		}
		can = can && systemOf(c.z, 1, ahead...).some()
		if y.Empty() == can {
			t.Fatal(c.z.Print(), ahead, sets, y.Print())
		}
		_, widened, err := Behind(c.Net, somePlan(r, c.Net, 5), c.s, c.z, c.m)
		if widened.Empty() == can || err != api.OK {
			t.Fatal(widened.Print(), can, err)
		}
		counts[can]++
	})
	if counts[true] < 500 || counts[false] < 500 {
		t.Error(counts)
	}
}

// greatestNet is a network with as many of all as may be.
func greatestNet() api.Net {
	var n api.Net
	guards := slices.Repeat([]api.Guard{{Clock: 1, Cmp: api.Le, N: api.MaxConst}}, api.MaxGuards)
	sets := slices.Repeat([]api.Set{{Clock: 8, N: 7}}, api.MaxSets)
	for i := range api.MaxClocks {
		n.Clocks = append(n.Clocks, fmt.Sprint("x", i))
		guards[i].Clock, guards[i].N = 1+i, 100+i
		sets[i].Clock, sets[i].N = 1+i, i
	}
	for i := range api.MaxChans {
		n.Chans = append(n.Chans, fmt.Sprint("c", i))
	}
	for i := range api.MaxVars {
		n.Vars = append(n.Vars, api.Variable{Name: fmt.Sprint("v", i), Lo: -api.MaxValue, Hi: api.MaxValue})
	}
	test := append(slices.Repeat([]api.Node{{Op: api.Not}}, api.MaxNodes-2), api.Node{Op: api.True})
	for i := range api.MaxParts {
		a := api.Auto{Name: fmt.Sprint("A", i)}
		for j := range api.MaxLocs {
			a.Locs = append(a.Locs, api.Loc{Name: fmt.Sprint("l", j), Inv: guards})
		}
		for j := range api.MaxEdges {
			e := api.Edge{From: j % api.MaxLocs, To: (j + 1) % api.MaxLocs, Guards: guards, Test: test, Chan: j % 17, Send: j%17 > 0 && i%2 == 0, Sets: slices.Clone(sets)}
			e.Sets[api.MaxSets-1] = api.Set{Var: i, Expr: []api.Node{{Op: api.Num, N: j}}}
			a.Edges = append(a.Edges, e)
		}
		n.Autos = append(n.Autos, a)
	}
	return n
}

// TestP15Greatest: as many of all as may be.
func TestP15Greatest(t *testing.T) {
	n := greatestNet()
	if err := check.Net(n); err != api.OK {
		t.Fatal(err)
	}
	p := mustPlan(t)(Uniform(n, slices.Repeat([]int{api.MaxConst}, api.MaxClocks)))
	if len(p.Up) != api.MaxParts || len(p.Up[7]) != api.MaxLocs || len(p.Up[7][63]) != api.MaxClocks || p.Up[7][63][7] != api.MaxConst {
		t.Error(len(p.Up))
	}
	s, z, err := First(n, p)
	if text := z.Print(); !strings.HasPrefix(text, "8: x1-x0<=100 x1-x2<=0 ") || err != api.OK {
		t.Error(text, err)
	}
	m := api.Move{Auto: 6, Edge: 64, With: 8, Take: 64}
	next, y, err := Exactly(n, s, z, m)
	isAnswer(t, next, y, err)(wantExactly(n, s, z, m))
	if next.Locs[6] != 1 || next.Locs[7] != 1 || next.Vars[6] != 64 || next.Vars[7] != 64 || y.Empty() || err != api.OK {
		t.Error(next, y.Print(), err)
	}
	next, y, err = Behind(n, p, s, z, m)
	isAnswer(t, next, y, err)(wantBehind(n, p, s, z, m))
	y, err = Wait(n, next, y)
	isZone(t, y, err)(y, api.OK)
	w, err := Of(n, api.Plan{}, next)
	if fmt.Sprint(w) != "{[1048576 101 102 103 104 105 106 107] [1048576 101 102 103 104 105 106 107]}" || err != api.OK {
		t.Error(w, err)
	}
	part := api.Part{Guards: n.Autos[0].Locs[0].Inv, Test: n.Autos[0].Edges[0].Test}
	for range 2 {
		for i := range n.Autos {
			part.Locs = append(part.Locs, api.At{Auto: i})
		}
	}
	y, err = Meets(n, s, z, part)
	isZone(t, y, err)(z, api.OK)
	y, err = Meets(n, next, z, part)
	isZone(t, y, err)(empty(t, 8), api.OK)
	// One more of something is too much.
	n.Autos[7].Edges[255].Sets = append(n.Autos[7].Edges[255].Sets, api.Set{Clock: 1})
	s, y, err = Behind(n, p, s, z, m)
	isAnswer(t, s, y, err)(api.State{}, nil, api.ErrLong)
}

// visited is all zones that are stored when a network is gone through from its beginning on; false: they are too many.
func visited(t testing.TB, n api.Net, p api.Plan, last bool) (*passed.Store, bool) {
	t.Helper()
	store := passed.New(last)
	put := func(s api.State, z *dbm.Zone, err api.Errno) bool {
		if err != api.OK {
			t.Fatal(s, z.Print(), err)
		}
		if z.Empty() {
			return true
		}
		key, _ := state.Key(n, s)
		_, _, _, err = store.Put(key, z)
		return err == api.OK
	}
	if !put(First(n, p)) {
		return nil, false
	}
	for i, some := store.Take(); some; i, some = store.Take() {
		key, _ := store.Key(i)
		z, _ := store.Zone(i)
		s, _ := state.Of(n, key)
		for _, m := range moves.Enabled(n, s) {
			if !put(Behind(n, p, s, z, m)) {
				return nil, false
			}
		}
	}
	return store, true
}

// statesOf are the keys of all states that were come to, rising.
func statesOf(s *passed.Store) []string {
	var l []string
	for i := range s.Len() {
		key, _ := s.Key(i)
		l = append(l, string(key))
	}
	slices.Sort(l)
	return slices.Compact(l)
}

// TestE6Wider (E5, E6): by wider and by stricter plans, first in first out or last, the same states are come to; and what a run at random comes to is in a zone of its state.
func TestE6Wider(t *testing.T) {
	r := source(13)
	ended, many := 0, 0
	for k := range 400 {
		n := someNet(r, k%4, 4)
		most := check.Max(n)
		higher := slices.Clone(most)
		for c := range higher {
			higher[c] += 1 + r.IntN(2)
		}
		plans := []api.Plan{{}, mustPlan(t)(Uniform(n, most)), mustPlan(t)(Uniform(n, higher)), {Lo: everywhere(n, check.Lower(n)), Up: everywhere(n, check.Upper(n))}}
		var want []string
		for at, p := range plans {
			for _, last := range []bool{false, true} {
				store, ok := visited(t, n, p, last)
				if !ok {
					continue
				}
				ended++
				got := statesOf(store)
				if at == 0 && !last {
					want = got
				}
				many = max(many, len(got))
				if want != nil && !slices.Equal(got, want) {
					t.Fatal(n, p, last, len(got), len(want))
				}
				stroll(t, r, n, store)
			}
		}
	}
	if ended < 2000 || many < 10 {
		t.Error(ended, many)
	}
}

// stroll does a run at random, and holds each configuration against the zones of its state.
func stroll(t testing.TB, r *rand.Rand, n api.Net, store *passed.Store) {
	t.Helper()
	s, _ := state.First(n)
	v := place{4, make([]int64, len(n.Clocks)+1)}
	if !v.holds(invariantsOf(n, s)...) {
		return
	}
	for range 15 {
		later := place{4, slices.Clone(v.at)}
		if d := int64(r.IntN(12)); mayPass(n, s) {
			for c := 1; c < len(v.at); c++ {
				later.at[c] += d
			}
		}
		if later.holds(invariantsOf(n, s)...) {
			v = later
		}
		key, _ := state.Key(n, s)
		if !slices.ContainsFunc(store.Of(key), func(i int) bool {
			z, _ := store.Zone(i)
			return v.in(z)
		}) {
			t.Fatal(n, s, v)
		}
		l := moves.Enabled(n, s)
		if len(l) == 0 {
			return
		}
		m := l[r.IntN(len(l))]
		next, _ := moves.After(n, s, m)
		if q := v.set(setsOf(n, m)...); v.holds(guardsOf(n, m)...) && q.holds(invariantsOf(n, next)...) {
			s, v = next, q
		}
	}
}

// fischer is Fischer's protocol: who has written its number last, and waits for more than the others may take to write theirs, goes in.
func fischer(many int, wait string) string {
	var text strings.Builder
	fmt.Fprint(&text, "clock x0")
	for i := 1; i < many; i++ {
		fmt.Fprint(&text, ", x", i)
	}
	fmt.Fprintf(&text, "; int id in 0 .. %d := 0;\n", many)
	for i := range many {
		fmt.Fprintf(&text, `auto P%[1]d { loc idle; loc try inv x%[1]d <= 2; loc wait; loc crit;
			edge idle -> try when id == 0 do x%[1]d := 0;
			edge try -> wait do x%[1]d := 0, id := %[2]d;
			edge wait -> crit when x%[1]d %[3]s && id == %[2]d;
			edge wait -> try when id == 0 do x%[1]d := 0;
			edge crit -> idle do id := 0; }
`, i, i+1, wait)
	}
	return text.String()
}

// TestE6Fischer: two are in at once just if the time to wait is not above the time to write.
func TestE6Fischer(t *testing.T) {
	for wait, safe := range map[string]bool{"> 2": true, ">= 3": true, "== 3": true, ">= 2": false, "> 1": false, ">= 0": false} {
		n := said(t, fischer(3, wait))
		store, ok := visited(t, n, api.Plan{}, false)
		if !ok {
			t.Fatal(wait)
		}
		both := slices.ContainsFunc(statesOf(store), func(key string) bool {
			s, _ := state.Of(n, []byte(key))
			in := 0
			for _, l := range s.Locs {
				if l == 3 {
					in++
				}
			}
			return in > 1
		})
		if both == safe {
			t.Error(wait, both)
		}
	}
}

// TestP3StaysAsItIs: what is handed in stays as it is, spare room too; what is answered is the caller's.
func TestP3StaysAsItIs(t *testing.T) {
	room := func() (api.Net, api.Plan, api.State, api.Part) {
		n := said(t, rich)
		for i := range n.Autos {
			a := &n.Autos[i]
			for j := range a.Locs {
				a.Locs[j].Inv = append(a.Locs[j].Inv, api.Guard{N: -1}, api.Guard{N: -2})[:len(a.Locs[j].Inv)]
			}
			for j := range a.Edges {
				e := &a.Edges[j]
				e.Guards = append(e.Guards, api.Guard{N: -1}, api.Guard{N: -2})[:len(e.Guards)]
				e.Sets = append(e.Sets, api.Set{N: -3}, api.Set{N: -4})[:len(e.Sets)]
			}
		}
		p := api.Plan{Lo: everywhere(n, []int{3, 4, 77, 78}), Up: everywhere(n, []int{5, 6, 79, 80})}
		for i := range n.Autos {
			for j := range n.Autos[i].Locs {
				p.Lo[i][j], p.Up[i][j] = p.Lo[i][j][:2], p.Up[i][j][:2]
			}
		}
		s := api.State{Locs: append([]int{0, 0}, 8, 8)[:2], Vars: append([]int{0, 2}, 9, 9)[:2]}
		g := aim(t, n, "A.a && x >= 3 && n == 0")
		g.Guards = append(g.Guards, api.Guard{N: -5})[:1]
		return n, p, s, g
	}
	all := func(n api.Net, p api.Plan, s api.State, g api.Part) string {
		text := fmt.Sprint(n, p, s, g, s.Locs[:4], s.Vars[:4], g.Guards[:2])
		for i, a := range n.Autos {
			for j, l := range a.Locs {
				text += fmt.Sprint(l.Inv[:len(l.Inv)+2], p.Lo[i][j][:4], p.Up[i][j][:4])
			}
			for _, e := range a.Edges {
				text += fmt.Sprint(e.Guards[:len(e.Guards)+2], e.Sets[:len(e.Sets)+2])
			}
		}
		return text
	}
	n, p, s, g := room()
	most := []int{4, 5, 66}
	z := zone(t, "2:")
	var answers []any
	for range 2 {
		for _, plan := range []api.Plan{p, {}} {
			w, _ := Of(n, plan, s)
			first, _, _ := First(n, plan)
			next, y, err := Behind(n, plan, s, z, api.Move{With: 2})
			if y == z || err != api.OK {
				t.Error(err)
			}
			answers = append(answers, w, first, next)
		}
		next, y, _ := Exactly(n, s, z, api.Move{With: 2})
		wait, _ := Wait(n, s, z)
		meets, _ := Meets(n, s, z, g)
		uniform, _ := Uniform(n, most[:2])
		if y == z || wait == z || meets == z {
			t.Error("not new")
		}
		answers = append(answers, next, uniform)
	}
	if shared(append(answers, n, p, s, g, most)...) {
		t.Error("shared")
	}
	for _, a := range answers {
		switch x := a.(type) {
		case Widen:
			clear(x.Lo[:cap(x.Lo)])
			clear(x.Up[:cap(x.Up)])
		case api.State:
			clear(x.Locs[:cap(x.Locs)])
			clear(x.Vars[:cap(x.Vars)])
		case api.Plan:
			clear(x.Lo[0][0][:cap(x.Lo[0][0])])
			clear(x.Up[1])
		}
	}
	if got, want := all(n, p, s, g), all(room()); got != want || !slices.Equal(most, []int{4, 5, 66}) || z.Print() != "2:" {
		t.Error(got, want, most, z.Print())
	}
}

// TestP1Any: nothing panics, whatever it is given, and beside an error there is nothing.
func TestP1Any(t *testing.T) {
	r := source(14)
	wild := []int{math.MinInt, -1 << 32, -2, -1, 0, 0, 0, 1, 1, 2, 3, 255, 1 << 20, 1<<20 + 1, 1 << 32, math.MaxInt}
	any := func() int { return wild[r.IntN(len(wild))] }
	row := func() []int {
		var l []int
		for range r.IntN(4) {
			l = append(l, any())
		}
		return l
	}
	table := func() [][][]int {
		var l [][][]int
		for range r.IntN(4) {
			var rows [][]int
			for range r.IntN(5) {
				rows = append(rows, row())
			}
			l = append(l, rows)
		}
		return l
	}
	nets := []api.Net{said(t, rich), said(t, small), said(t, "auto A { loc a; edge a -> a; }")}
	for _, w := range wrongNets(t) {
		nets = append(nets, w.Net)
	}
	zones := []*dbm.Zone{nil, zone(t, "0:"), zone(t, "1:"), zone(t, "2:"), zone(t, far), zone(t, wide), empty(t, 0), empty(t, 2), empty(t, 8)}
	for range 20000 {
		n, z := nets[r.IntN(len(nets))], zones[r.IntN(len(zones))]
		p := api.Plan{Lo: table(), Up: table()}
		s := api.State{Locs: row(), Vars: row()}
		m := api.Move{Auto: any(), Edge: any(), With: any(), Take: any()}
		g := api.Part{Locs: []api.At{{Auto: any(), Loc: any()}}, Guards: []api.Guard{{Clock: any(), Other: any(), Cmp: api.Cmp(any()), N: any()}}, Test: []api.Node{{Op: api.Op(any()), N: any()}}}
		none := func(err api.Errno, next api.State, y *dbm.Zone) {
			t.Helper()
			if err != api.OK && (y != nil || next.Locs != nil || next.Vars != nil) || check.Net(n) != api.OK && err != check.Net(n) {
				t.Fatal(n, p, s, m, g, err)
			}
		}
		Of(n, p, s)
		next, y, err := First(n, p)
		none(err, next, y)
		next, y, err = Behind(n, p, s, z, m)
		none(err, next, y)
		next, y, err = Exactly(n, s, z, m)
		none(err, next, y)
		y, err = Wait(n, s, z)
		none(err, api.State{}, y)
		y, err = Meets(n, s, z, g)
		none(err, api.State{}, y)
		if _, err := Uniform(n, row()); err == api.OK && !net.Right(n) {
			t.Fatal(n)
		}
	}
}
