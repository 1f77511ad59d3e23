package check

import (
	"fmt"
	"math"
	"math/rand/v2"
	"reflect"
	"slices"
	"testing"

	"gnomon/api"
	"gnomon/net"
	"gnomon/parse"
)

// said is the network that a text says.
func said(t testing.TB, s string) api.Net {
	t.Helper()
	n, err, at := parse.Net(s)
	if err != api.OK {
		t.Fatal(s, err, at)
	}
	return n
}

// aim is the goal that a text says.
func aim(t testing.TB, n api.Net, s string) api.Goal {
	t.Helper()
	g, err, at := parse.Goal(n, s)
	if err != api.OK {
		t.Fatal(s, err, at)
	}
	return g
}

const small = "clock x; auto A { loc a inv x <= 5; loc b; edge a -> b when x >= 3 do x := 0; }"

const rich = `clock x, y, z, u; int n in -1048576 .. 9 := 0; chan c;
	auto A {
		loc a inv x <= 5 && y < 7; loc b urgent; loc d inv z == 4;
		edge a -> b when x >= 3 && n < 3 && y > 2 sync c! do x := 0, n := n + 1048576, y := 1048576;
		edge b -> d when n == 3 do z := 17;
	}
	auto B { loc a inv y <= 1; edge a -> a sync c? do u := 99; edge a -> a when y >= 9 && x < 2; }`

// fault is one that check alone looks for.
type fault struct {
	err   api.Errno
	guard api.Guard
}

func guardFaults() []fault {
	var l []fault
	for _, n := range []int{-1, api.MaxConst + 1, math.MinInt, math.MaxInt, 1 << 32, -1 << 32} {
		l = append(l, fault{api.ErrConst, api.Guard{Clock: 1, Cmp: api.Lt, N: n}}, fault{api.ErrConst, api.Guard{Clock: 4, Cmp: api.Eq, N: n}})
		l = append(l, fault{api.ErrDiagonal, api.Guard{Clock: 1, Other: 2, Cmp: api.Gt, N: n}})
	}
	return append(l, fault{api.ErrDiagonal, api.Guard{Clock: 1, Other: 2, Cmp: api.Gt, N: 3}}, fault{api.ErrDiagonal, api.Guard{Clock: 1, Other: 1, Cmp: api.Gt}}, fault{api.ErrDiagonal, api.Guard{Clock: 2, Other: 4, Cmp: api.Gt}})
}

// spots are all places of the rich network.
func spots() []Spot {
	return []Spot{{0, 0, -1}, {0, 1, -1}, {0, 2, -1}, {0, -1, 0}, {0, -1, 1}, {1, 0, -1}, {1, -1, 0}, {1, -1, 1}}
}

// putGuard puts a guard behind those of a place.
func putGuard(n *api.Net, s Spot, g api.Guard) {
	if s.Edge < 0 {
		l := &n.Autos[s.Auto].Locs[s.Loc]
		l.Inv = append(l.Inv, g)
		return
	}
	e := &n.Autos[s.Auto].Edges[s.Edge]
	e.Guards = append(e.Guards, g)
}

func putSet(n *api.Net, s Spot, x api.Set) {
	e := &n.Autos[s.Auto].Edges[s.Edge]
	e.Sets = append(e.Sets, x)
}

// wrongAs holds Net and Where to an error at a place.
func wrongAs(t *testing.T, n api.Net, err api.Errno, at Spot) {
	t.Helper()
	if got := Net(n); got != err {
		t.Error(got, err)
	}
	if s, got := Where(n); got != err || s != at {
		t.Error(s, got, at, err)
	}
}

// noNumbers holds the four lists to none.
func noNumbers(t *testing.T, n api.Net, g ...api.Goal) {
	t.Helper()
	if l := slices.Concat(Max(n, g...), Lower(n, g...), Upper(n, g...), Kept(n, g...)); len(l) != 0 {
		t.Error(l)
	}
}

// TestP12_1Net: right ones, and each error of each place; ErrDiagonal ahead of ErrConst, wherever they are.
func TestP12_1Net(t *testing.T) {
	for _, s := range []string{small, rich, "auto A { loc a; }"} {
		wrongAs(t, said(t, s), api.OK, Spot{})
	}
	wrongAs(t, said(t, "clock x; auto A { loc a inv x <= 1048576 && x >= 0; edge a -> a when x == 1048576 do x := 1048576, x := 0; }"), api.OK, Spot{})
	for _, f := range guardFaults() {
		for _, at := range spots() {
			n := said(t, rich)
			putGuard(&n, at, f.guard)
			wrongAs(t, n, f.err, at)
			noNumbers(t, n)
		}
	}
	for _, k := range []int{-1, api.MaxConst + 1, math.MinInt, math.MaxInt, 1 << 32} {
		for _, at := range spots() {
			if at.Edge >= 0 {
				n := said(t, rich)
				putSet(&n, at, api.Set{Clock: 4, N: k})
				wrongAs(t, n, api.ErrConst, at)
				noNumbers(t, n)
			}
		}
	}
	// What the parser lets stand is found here.
	for s, want := range map[string]Spot{
		"clock x; auto A { loc a inv x <= -1; }": {0, 0, -1}, "clock x; auto A { loc a; edge a -> a when x < 1 && x > -1; }": {0, -1, 0}, "clock x; auto A { loc a; edge a -> a; edge a -> a do x := 1, x := -3; }": {0, -1, 1},
	} {
		wrongAs(t, said(t, s), api.ErrConst, want)
	}
}

// TestP12_1Whole: what is not whole has net.Whole's error, whatever else is wrong.
func TestP12_1Whole(t *testing.T) {
	for _, do := range []func(n *api.Net){
		func(n *api.Net) { n.Autos = nil }, func(n *api.Net) { n.Autos[0].Locs = nil }, func(n *api.Net) { n.Clocks = make([]string, 9) }, func(n *api.Net) { n.Clocks[0] = "y" }, func(n *api.Net) { n.Vars[0].Hi = -1 }, func(n *api.Net) { n.Autos[1].Locs[0].Kind = 9 }, func(n *api.Net) { n.Autos[1].Edges[0].To = -1 },
		func(n *api.Net) { n.Autos[1].Edges[0].Guards = []api.Guard{{Clock: 5, Cmp: api.Lt}} }, func(n *api.Net) { n.Autos[1].Locs[0].Inv[0].Other = 5 }, func(n *api.Net) { n.Autos[1].Locs[0].Inv[0].Cmp = 0 }, func(n *api.Net) { n.Autos[1].Edges[0].Test = []api.Node{{}} }, func(n *api.Net) { n.Autos[1].Edges[0].Sets[0] = api.Set{N: 1} },
	} {
		for _, f := range append(guardFaults(), fault{guard: api.Guard{Clock: 1, Cmp: api.Lt}}) {
			n := said(t, rich)
			putGuard(&n, Spot{0, 0, -1}, f.guard)
			do(&n)
			err := net.Whole(n)
			if err == api.OK {
				t.Fatal(n)
			}
			wrongAs(t, n, err, Spot{})
			noNumbers(t, n)
			noNumbers(t, n, nil, api.Goal{{}})
			if got := Goal(n, api.Goal{{Guards: []api.Guard{f.guard}}}); got != err {
				t.Error(got, err)
			}
		}
	}
	wrongAs(t, api.Net{}, api.ErrRange, Spot{})
}

// TestP12_1Goal: the network's errors, then those of the goal, in their order.
func TestP12_1Goal(t *testing.T) {
	n := said(t, rich)
	for _, s := range []string{"true", "A.a", "x > 7 && y == 1048576 || z <= 0 && n < 3", "(true)", "x >= 0 && x < 1048576"} {
		if err := Goal(n, aim(t, n, s)); err != api.OK {
			t.Error(s, err)
		}
	}
	for _, g := range []api.Goal{nil, {}, {{}}, make(api.Goal, 16)} {
		if err := Goal(n, g); err != api.OK {
			t.Error(len(g), err)
		}
	}
	// Of one goal: what net.WholeGoal finds, two clocks, a number; in any of its parts.
	parts := []struct {
		err api.Errno
		p   api.Part
	}{{api.ErrLong, api.Part{Locs: make([]api.At, 17)}}, {api.ErrLoc, api.Part{Locs: []api.At{{Auto: 2}}}}, {api.ErrClock, api.Part{Guards: []api.Guard{{Clock: 5, Cmp: api.Lt}}}}, {api.ErrForm, api.Part{Guards: []api.Guard{{Clock: 1}}}}, {api.ErrTest, api.Part{Test: []api.Node{{}}}}}
	whole := len(parts)
	for _, f := range guardFaults() {
		parts = append(parts, struct {
			err api.Errno
			p   api.Part
		}{f.err, api.Part{Guards: []api.Guard{{Clock: 1, Cmp: api.Lt, N: 1}, f.guard}}})
	}
	order := []api.Errno{api.ErrLong, api.ErrLoc, api.ErrClock, api.ErrForm, api.ErrTest, api.ErrDiagonal, api.ErrConst}
	for i, a := range parts {
		for _, b := range parts {
			g := api.Goal{{}, a.p, b.p}
			want := order[min(slices.Index(order, a.err), slices.Index(order, b.err))]
			if err := Goal(n, g); err != want {
				t.Error(a, b, err, want)
			}
			noNumbers(t, n, g)
			noNumbers(t, n, nil, g, api.Goal{{}})
		}
		if i < whole && net.WholeGoal(n, api.Goal{a.p}) != a.err {
			t.Error(a)
		}
		// The network's own error comes ahead, whichever it is.
		for _, f := range guardFaults() {
			wrong := said(t, rich)
			putGuard(&wrong, Spot{1, -1, 1}, f.guard)
			if err := Goal(wrong, api.Goal{a.p}); err != f.err {
				t.Error(a, f, err)
			}
			if err := Goal(wrong, nil); err != f.err {
				t.Error(f, err)
			}
		}
	}
}

// TestP12_2Where: of two places that have one error the first; of both errors that which is named first.
func TestP12_2Where(t *testing.T) {
	diagonal, constant := api.Guard{Clock: 1, Other: 2, Cmp: api.Lt, N: 1}, api.Guard{Clock: 1, Cmp: api.Lt, N: -1}
	for i, a := range spots() {
		for j, b := range spots() {
			first := spots()[min(i, j)]
			for _, g := range []api.Guard{diagonal, constant} {
				n := said(t, rich)
				putGuard(&n, a, g)
				putGuard(&n, b, g)
				wrongAs(t, n, map[bool]api.Errno{true: api.ErrDiagonal, false: api.ErrConst}[g.Other != 0], first)
			}
			n := said(t, rich)
			putGuard(&n, a, diagonal)
			putGuard(&n, b, constant)
			wrongAs(t, n, api.ErrDiagonal, a)
			if a.Edge >= 0 {
				n := said(t, rich)
				putSet(&n, a, api.Set{Clock: 1, N: -1})
				putGuard(&n, b, constant)
				wrongAs(t, n, api.ErrConst, first)
				putGuard(&n, b, diagonal)
				wrongAs(t, n, api.ErrDiagonal, b)
			}
		}
	}
	n := said(t, small)
	n.Autos[0].Locs[0].Inv[0].N = -1
	wrongAs(t, n, api.ErrConst, Spot{0, 0, -1})
}

// TestP12_3Examples: the document's, and one with all kinds of guards.
func TestP12_3Examples(t *testing.T) {
	for _, x := range []struct {
		net                string
		goals              []string
		upper, lower, most []int
		kept               []int
	}{
		{small, nil, []int{5}, []int{3}, []int{5}, []int{1}},
		{small, []string{"x > 7"}, []int{5}, []int{7}, []int{7}, []int{1}},
		{small, []string{"x < 7", "x > 6"}, []int{7}, []int{6}, []int{7}, []int{1}},
		{small, []string{"true", "A.a"}, []int{5}, []int{3}, []int{5}, []int{1}},
		{small, []string{"x == 9"}, []int{9}, []int{9}, []int{9}, []int{1}},
		{small, []string{"x == 1 && x < 2 || x > 1"}, []int{5}, []int{3}, []int{5}, []int{1}},
		// Sets hold no clock against a number: of u there is nothing but a set.
		{rich, nil, []int{5, 7, 4, -1}, []int{3, 9, 4, -1}, []int{5, 9, 4, -1}, []int{1, 2, 3}},
		{rich, []string{"u >= 0"}, []int{5, 7, 4, -1}, []int{3, 9, 4, 0}, []int{5, 9, 4, 0}, []int{1, 2, 3, 4}},
		{rich, []string{"u <= 0 || x > 4", "z < 1048576"}, []int{5, 7, api.MaxConst, 0}, []int{4, 9, 4, -1}, []int{5, 9, api.MaxConst, 0}, []int{1, 2, 3, 4}},
		{"auto A { loc a; }", []string{"A.a"}, nil, nil, nil, nil},
		{"clock x, y; auto A { loc a; edge a -> a do x := 7; }", nil, []int{-1, -1}, []int{-1, -1}, []int{-1, -1}, nil},
		{"clock x, y; auto A { loc a; }", []string{"y > 0"}, []int{-1, -1}, []int{-1, 0}, []int{-1, 0}, []int{2}},
		{"clock x, y, z; auto A { loc a inv x < 0; edge a -> a when z > 0; }", nil, []int{0, -1, -1}, []int{-1, -1, 0}, []int{0, -1, 0}, []int{1, 3}},
	} {
		n := said(t, x.net)
		var goals []api.Goal
		for _, s := range x.goals {
			goals = append(goals, aim(t, n, s))
		}
		for what, pair := range map[string][2][]int{"upper": {Upper(n, goals...), x.upper}, "lower": {Lower(n, goals...), x.lower}, "max": {Max(n, goals...), x.most}, "kept": {Kept(n, goals...), x.kept}} {
			if !slices.Equal(pair[0], pair[1]) {
				t.Error(x.net, x.goals, what, pair)
			}
		}
	}
}

// allGuards are those of a network and of goals, in no order.
func allGuards(n api.Net, goals []api.Goal) []api.Guard {
	var l []api.Guard
	for _, a := range n.Autos {
		for _, e := range a.Edges {
			l = append(l, e.Guards...)
		}
		for _, loc := range a.Locs {
			l = append(l, loc.Inv...)
		}
	}
	for _, g := range goals {
		for _, p := range g {
			l = append(l, p.Guards...)
		}
	}
	return l
}

// wantNumbers reckons the numbers of a clock another way: by which valuations a guard tells apart.
func wantNumbers(guards []api.Guard, clock int) (upper, lower int) {
	upper, lower = -1, -1
	for _, g := range guards {
		if g.Clock != clock {
			continue
		}
		holds := func(x float64) bool {
			return []bool{x < float64(g.N), x <= float64(g.N), x == float64(g.N), x >= float64(g.N), x > float64(g.N)}[g.Cmp-1]
		}
		if !holds(float64(g.N) + 0.5) {
			upper = max(upper, g.N)
		}
		if !holds(float64(g.N) - 0.5) {
			lower = max(lower, g.N)
		}
	}
	return upper, lower
}

// source makes networks and goals at random.
type source struct{ *rand.Rand }

func newSource(seed uint64) source { return source{rand.New(rand.NewPCG(12, seed))} }

func (s source) guards(clocks int) []api.Guard {
	var l []api.Guard
	for range s.IntN(4) {
		if clocks > 0 {
			l = append(l, api.Guard{Clock: 1 + s.IntN(clocks), Cmp: api.Lt + api.Cmp(s.IntN(5)), N: []int{0, 1, 2, 3, 9, api.MaxConst}[s.IntN(6)]})
		}
	}
	return l
}

func (s source) network() api.Net {
	n := api.Net{Clocks: []string{"x", "y", "z"}[:s.IntN(4)]}
	for i := range 1 + s.IntN(3) {
		a := api.Auto{Name: fmt.Sprint("A", i)}
		for j := range 1 + s.IntN(3) {
			a.Locs = append(a.Locs, api.Loc{Name: fmt.Sprint("l", j), Inv: s.guards(len(n.Clocks))})
		}
		for range s.IntN(3) {
			e := api.Edge{Guards: s.guards(len(n.Clocks))}
			if len(n.Clocks) > 0 && s.IntN(2) == 0 {
				e.Sets = []api.Set{{Clock: 1 + s.IntN(len(n.Clocks)), N: s.IntN(api.MaxConst + 1)}}
			}
			a.Edges = append(a.Edges, e)
		}
		n.Autos = append(n.Autos, a)
	}
	return n
}

func (s source) goals(n api.Net) []api.Goal {
	var l []api.Goal
	for range s.IntN(4) {
		var g api.Goal
		for range s.IntN(3) {
			g = append(g, api.Part{Guards: s.guards(len(n.Clocks))})
		}
		l = append(l, g)
	}
	return l
}

// TestP12_3Numbers: against the guards gathered another way.
func TestP12_3Numbers(t *testing.T) {
	s := newSource(1)
	for range 5000 {
		n := s.network()
		goals := s.goals(n)
		upper, lower, most, kept := Upper(n, goals...), Lower(n, goals...), Max(n, goals...), Kept(n, goals...)
		if len(upper) != len(n.Clocks) || len(lower) != len(n.Clocks) || len(most) != len(n.Clocks) {
			t.Fatal(n, upper, lower, most)
		}
		var want []int
		for i := range n.Clocks {
			up, low := wantNumbers(allGuards(n, goals), i+1)
			if upper[i] != up || lower[i] != low || most[i] != max(up, low) {
				t.Fatal(n, goals, i, upper, lower, most, up, low)
			}
			if max(up, low) >= 0 {
				want = append(want, i+1)
			}
		}
		if !slices.Equal(kept, want) {
			t.Fatal(n, goals, kept, want)
		}
	}
}

// TestP12_4More: with a goal more no number is smaller.
func TestP12_4More(t *testing.T) {
	s := newSource(2)
	for range 3000 {
		n := s.network()
		goals := s.goals(n)
		for k := range goals {
			for _, call := range []func(api.Net, ...api.Goal) []int{Max, Lower, Upper} {
				few, more := call(n, goals[:k]...), call(n, goals[:k+1]...)
				for i := range few {
					if few[i] > more[i] {
						t.Fatal(n, goals, few, more)
					}
				}
			}
			if few, more := Kept(n, goals[:k]...), Kept(n, goals[:k+1]...); slices.ContainsFunc(few, func(c int) bool { return !slices.Contains(more, c) }) {
				t.Fatal(n, goals, few, more)
			}
		}
	}
}

// TestP12_5Copy: what net.Copy makes has the same answers.
func TestP12_5Copy(t *testing.T) {
	s := newSource(3)
	for k := range 2000 {
		n := s.network()
		goals := s.goals(n)
		if k%3 == 0 {
			n.Autos[0].Locs[0].Inv = append(n.Autos[0].Locs[0].Inv, api.Guard{Clock: s.IntN(4), Other: s.IntN(3), Cmp: api.Lt, N: s.IntN(3) - 1})
		}
		m := net.Copy(n)
		spot, err := Where(n)
		again, same := Where(m)
		if spot != again || err != same || Net(n) != Net(m) {
			t.Fatal(n, spot, err, again, same)
		}
		for _, call := range []func(api.Net, ...api.Goal) []int{Max, Lower, Upper, Kept} {
			if !slices.Equal(call(n, goals...), call(m, goals...)) {
				t.Fatal(n)
			}
		}
		for _, g := range goals {
			if Goal(n, g) != Goal(m, net.CopyGoal(g)) {
				t.Fatal(n, g)
			}
		}
	}
}

// TestP12_6Bare: without guards and sets a network is right, if it is whole; its numbers are all -1.
func TestP12_6Bare(t *testing.T) {
	s := newSource(4)
	for range 1000 {
		n := s.network()
		for i := range n.Autos {
			for j := range n.Autos[i].Locs {
				n.Autos[i].Locs[j].Inv = nil
			}
			for j := range n.Autos[i].Edges {
				n.Autos[i].Edges[j].Guards, n.Autos[i].Edges[j].Sets = nil, nil
			}
		}
		wrongAs(t, n, api.OK, Spot{})
		for _, call := range []func(api.Net, ...api.Goal) []int{Max, Lower, Upper} {
			for _, goals := range [][]api.Goal{nil, {nil}, {{}, {{}}}} {
				if l := call(n, goals...); len(l) != len(n.Clocks) || slices.ContainsFunc(l, func(k int) bool { return k != -1 }) {
					t.Fatal(n, l)
				}
			}
		}
		if l := Kept(n); len(l) != 0 {
			t.Fatal(n, l)
		}
		n.Autos[0].Locs[0].Name = "in"
		wrongAs(t, n, api.ErrName, Spot{})
		noNumbers(t, n)
	}
}

// TestP12Greatest: a network and goals with as many guards as may be.
func TestP12Greatest(t *testing.T) {
	n := said(t, "clock x; auto A { loc a; }")
	n.Autos[0].Locs[0].Inv = slices.Repeat([]api.Guard{{Clock: 1, Cmp: api.Lt, N: 3}}, 16)
	n.Autos[0].Locs = slices.Repeat(n.Autos[0].Locs, 64)
	for i := range n.Autos[0].Locs {
		n.Autos[0].Locs[i].Name = fmt.Sprint("l", i)
	}
	n.Autos[0].Edges = slices.Repeat([]api.Edge{{Guards: slices.Repeat([]api.Guard{{Clock: 1, Cmp: api.Gt, N: 4}}, 16), Sets: slices.Repeat([]api.Set{{Clock: 1, N: 9}}, 16)}}, 256)
	goals := slices.Repeat([]api.Goal{slices.Repeat(api.Goal{{Guards: slices.Repeat([]api.Guard{{Clock: 1, Cmp: api.Le, N: 5}}, 16)}}, 16)}, 100)
	if a, b := Upper(n, goals...), Lower(n, goals...); !slices.Equal(a, []int{5}) || !slices.Equal(b, []int{4}) {
		t.Error(a, b)
	}
	goals[99] = slices.Clone(goals[99])
	goals[99][15].Guards = slices.Clone(goals[99][15].Guards)
	goals[99][15].Guards[15].N = -1
	noNumbers(t, n, goals...)
	last := &n.Autos[0].Edges[255]
	last.Sets = slices.Clone(last.Sets)
	last.Sets[15].N = -1
	wrongAs(t, n, api.ErrConst, Spot{0, -1, 255})
}

// TestP3StaysAsItIs: no call changes what it is handed, spare room too, or answers a list twice.
func TestP3StaysAsItIs(t *testing.T) {
	room := func() (api.Net, []api.Goal) {
		n := said(t, rich)
		n.Clocks = append(n.Clocks, "s1", "s2")[:4]
		n.Autos = append(n.Autos, api.Auto{Name: "s3"})[:2]
		a := &n.Autos[0]
		a.Locs[0].Inv = append(a.Locs[0].Inv, api.Guard{N: -5}, api.Guard{N: -6})[:2]
		a.Edges[0].Guards = append(a.Edges[0].Guards, api.Guard{N: -7}, api.Guard{N: -8})[:2]
		a.Edges[0].Sets = append(a.Edges[0].Sets, api.Set{N: -9})[:3]
		guards := append([]api.Guard{{Clock: 1, Cmp: api.Lt, N: 30}}, api.Guard{N: -10})[:1]
		goal := api.Goal{{Guards: guards}, {Guards: guards}}[:1]
		return n, append([]api.Goal{goal}, goal)[:1]
	}
	wide := func(n api.Net, l []api.Goal) string {
		a := n.Autos[0]
		return fmt.Sprint(n, n.Clocks[:6], n.Autos[:3], a.Locs[0].Inv[:4], a.Edges[0].Guards[:4], a.Edges[0].Sets[:4], l[:2], l[0][:2], l[0][0].Guards[:2])
	}
	n, goals := room()
	Net(n)
	Where(n)
	Goal(n, goals[0])
	for _, call := range []func(api.Net, ...api.Goal) []int{Max, Lower, Upper, Kept} {
		l := call(n, goals...)
		again := call(n, goals...)
		if len(l) == 0 || !slices.Equal(l, again) {
			t.Fatal(l, again)
		}
		for i := range l {
			l[i] = -7
		}
		if !slices.Equal(call(n, goals...), again) || reflect.ValueOf(l).Pointer() == reflect.ValueOf(again).Pointer() {
			t.Error(l, again)
		}
	}
	if m, h := room(); wide(n, goals) != wide(m, h) {
		t.Error(wide(n, goals))
	}
}

// TestP1Any: networks and goals of any numbers are answered, and none panics.
func TestP1Any(t *testing.T) {
	wild := []int{math.MinInt, -1, 0, 1, 2, 5, 99, math.MaxInt}
	s := newSource(5)
	for range 3000 {
		n := said(t, rich)
		any := func() int { return wild[s.IntN(len(wild))] }
		g := api.Guard{Clock: any(), Other: any(), Cmp: api.Cmp(s.IntN(8)), N: any()}
		putGuard(&n, spots()[s.IntN(8)], g)
		putSet(&n, Spot{1, -1, 1}, api.Set{Clock: any(), N: any(), Var: any(), Expr: make([]api.Node, s.IntN(2))})
		goal := api.Goal{{Locs: []api.At{{Auto: any(), Loc: any()}}, Guards: []api.Guard{g}}}
		spot, err := Where(n)
		if err != Net(n) || err == api.OK && spot != (Spot{}) || Goal(n, nil) != err {
			t.Fatal(n, spot, err)
		}
		if Goal(n, goal) != api.OK {
			noNumbers(t, n, goal)
		}
		if err != api.OK {
			noNumbers(t, n)
		}
	}
	noNumbers(t, api.Net{})
	noNumbers(t, api.Net{}, nil, nil)
}
