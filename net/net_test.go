package net

import (
	"fmt"
	"math"
	"math/rand/v2"
	"slices"
	"strings"
	"testing"

	"gnomon/api"
)

// small is the network of the document's examples.
func small() api.Net {
	return api.Net{Clocks: []string{"x"}, Autos: []api.Auto{{Name: "A", Locs: []api.Loc{{Name: "a", Inv: []api.Guard{{Clock: 1, Cmp: api.Le, N: 5}}}, {Name: "b"}}, Edges: []api.Edge{{To: 1, Guards: []api.Guard{{Clock: 1, Cmp: api.Ge, N: 3}}, Sets: []api.Set{{Clock: 1}}}}}}}
}

// rich has something of everything.
func rich() api.Net {
	less := []api.Node{{Op: api.Less}, {Op: api.Var, N: 1}, {Op: api.Num, N: 3}}
	return api.Net{
		Clocks: []string{"x", "y"},
		Vars:   []api.Variable{{Name: "n", Lo: -3, Hi: 4}, {Name: "m", Lo: -api.MaxValue, Hi: api.MaxValue, Init: 7}},
		Chans:  []string{"c", "d"},
		Autos: []api.Auto{
			{Name: "A", Locs: []api.Loc{{Name: "a", Inv: []api.Guard{{Clock: 1, Cmp: api.Le, N: 5}, {Clock: 2, Other: 1, Cmp: api.Lt, N: -2}}}, {Name: "b", Kind: api.Urgent}, {Name: "A", Kind: api.Committed, Inv: []api.Guard{{Clock: 2, Cmp: api.Eq, N: 9}}}},
				Edges: []api.Edge{
					{To: 1, Guards: []api.Guard{{Clock: 1, Cmp: api.Ge, N: 3}, {Clock: 2, Cmp: api.Gt, N: 0}}, Test: less, Chan: 1, Send: true, Sets: []api.Set{{Clock: 1}, {Var: 1, Expr: []api.Node{{Op: api.Add}, {Op: api.Var, N: 0}, {Op: api.Num, N: 1}}}, {Clock: 2, N: 8}}},
					{From: 1, To: 1, Test: append([]api.Node{{Op: api.Or}, {Op: api.True}}, less...)},
					{From: 2, Test: []api.Node{{Op: api.True}}},
					{From: 2, To: 2, Guards: []api.Guard{{Clock: 1, Cmp: api.Lt, N: 1}}, Test: append([]api.Node{{Op: api.And}, {Op: api.True}}, less...)},
				}},
			{Name: "B", Locs: []api.Loc{{Name: "a"}}, Edges: []api.Edge{{Chan: 2}, {}}},
		},
	}
}

const richText = `clock x, y;
int n in -3 .. 4 := 0;
int m in -1048576 .. 1048576 := 7;
chan c, d;
auto A {
  loc a inv x <= 5 && y - x < -2;
  loc b urgent;
  loc A committed inv y == 9;
  edge a -> b when x >= 3 && y > 0 && m < 3 sync c! do x := 0, m := n + 1, y := 8;
  edge b -> b when (true || m < 3);
  edge A -> a when (true);
  edge A -> A when x < 1 && true && m < 3;
}
auto B {
  loc a;
  edge a -> a sync d?;
  edge a -> a;
}
`

// deepTruth is a truth of so many nodes.
func deepTruth(nodes int) []api.Node {
	return append(slices.Repeat([]api.Node{{Op: api.Not}}, nodes-1), api.Node{Op: api.True})
}

// deepNumber is a number of so many nodes.
func deepNumber(nodes int) []api.Node {
	return append(slices.Repeat([]api.Node{{Op: api.Neg}}, nodes-1), api.Node{Op: api.Num, N: 1})
}

// named are so many names.
func named(head string, n int) []string {
	var l []string
	for i := range n {
		l = append(l, fmt.Sprint(head, i))
	}
	return l
}

// fault makes a network wrong in one way; it adds to what is there, so that several can be done to one.
type fault struct {
	what string
	err  api.Errno
	do   func(n *api.Net)
}

func addGuard(g api.Guard) func(*api.Net) {
	return func(n *api.Net) {
		n.Autos[0].Edges = append(n.Autos[0].Edges, api.Edge{Guards: []api.Guard{{Clock: 1, Cmp: api.Le}, g}})
	}
}

func addInv(g api.Guard) func(*api.Net) {
	return func(n *api.Net) { n.Autos[1].Locs[0].Inv = append(n.Autos[1].Locs[0].Inv, g) }
}

func addEdge(e api.Edge) func(*api.Net) {
	return func(n *api.Net) { n.Autos[1].Edges = append(n.Autos[1].Edges, e) }
}

func addSet(s api.Set) func(*api.Net) { return addEdge(api.Edge{Sets: []api.Set{{Clock: 1}, s}}) }

func addVar(lo, init, hi int) func(*api.Net) {
	return func(n *api.Net) {
		n.Vars = append(n.Vars, api.Variable{Name: fmt.Sprint("v", len(n.Vars)), Lo: lo, Init: init, Hi: hi})
	}
}

func addLoc(l api.Loc) func(*api.Net) {
	return func(n *api.Net) { n.Autos[1].Locs = append(n.Autos[1].Locs, l) }
}

func addKind(k api.LocKind) func(*api.Net) {
	return func(n *api.Net) { addLoc(api.Loc{Name: fmt.Sprint("k", len(n.Autos[1].Locs)), Kind: k})(n) }
}

func addAuto(a api.Auto) func(*api.Net) { return func(n *api.Net) { n.Autos = append(n.Autos, a) } }

func netFaultTable() []fault {
	one := []api.Node{{Op: api.Num, N: 1}}
	l := []fault{
		{"automaton without a location", api.ErrRange, addAuto(api.Auto{Name: "Z"})},
		{"clocks", api.ErrLong, func(n *api.Net) { n.Clocks = append(n.Clocks, named("k", 7)...) }},
		{"variables", api.ErrLong, func(n *api.Net) { n.Vars = append(n.Vars, make([]api.Variable, 15)...) }},
		{"channels", api.ErrLong, func(n *api.Net) { n.Chans = append(n.Chans, make([]string, 15)...) }},
		{"automata", api.ErrLong, func(n *api.Net) {
			n.Autos = append(n.Autos, slices.Repeat([]api.Auto{{Locs: make([]api.Loc, 1)}}, 7)...)
		}},
		{"locations", api.ErrLong, addAuto(api.Auto{Locs: make([]api.Loc, 65)})},
		{"edges", api.ErrLong, addAuto(api.Auto{Locs: make([]api.Loc, 1), Edges: make([]api.Edge, 257)})},
		{"guards of an invariant", api.ErrLong, addLoc(api.Loc{Inv: make([]api.Guard, 17)})},
		{"guards of an edge", api.ErrLong, addEdge(api.Edge{Guards: make([]api.Guard, 17)})},
		{"sets", api.ErrLong, addEdge(api.Edge{Sets: make([]api.Set, 17)})},
		{"nodes of a test", api.ErrLong, addEdge(api.Edge{Test: deepTruth(65)})},
		{"nodes of a set", api.ErrLong, addSet(api.Set{Expr: deepNumber(65)})},
		{"nodes of a clock's set", api.ErrLong, addSet(api.Set{Clock: 1, Expr: deepNumber(65)})},
		{"location's kind", api.ErrLoc, addKind(3)},
		{"location's kind 255", api.ErrLoc, addKind(255)},
		{"Send without Chan", api.ErrEdge, addEdge(api.Edge{Send: true})},
		{"Send with Chan below", api.ErrEdge, addEdge(api.Edge{Chan: -1, Send: true})},
		{"set's clock", api.ErrClock, addSet(api.Set{Clock: 3})}, {"set's clock below", api.ErrClock, addSet(api.Set{Clock: -1})}, {"set's clock far", api.ErrClock, addSet(api.Set{Clock: math.MinInt})},
		{"N of a variable's set", api.ErrForm, addSet(api.Set{N: 1, Expr: one})}, {"N below of a variable's set", api.ErrForm, addSet(api.Set{N: -1, Expr: one})},
		{"Var of a clock's set", api.ErrForm, addSet(api.Set{Clock: 1, Var: 1})}, {"Expr of a clock's set", api.ErrForm, addSet(api.Set{Clock: 2, Expr: one})},
		{"test that is not right", api.ErrTest, addEdge(api.Edge{Test: []api.Node{{Op: api.Not}}})}, {"test that is none", api.ErrTest, addEdge(api.Edge{Test: []api.Node{{}}})}, {"test that is a number", api.ErrTest, addEdge(api.Edge{Test: one})}, {"test of a variable that is none", api.ErrTest, addEdge(api.Edge{Test: []api.Node{{Op: api.Less}, {Op: api.Var, N: 99}, {Op: api.Num}}})},
		{"Var that is none", api.ErrTest, addSet(api.Set{Var: 99, Expr: one})}, {"Var below", api.ErrTest, addSet(api.Set{Var: -1, Expr: one})},
		{"set without Expr", api.ErrTest, addSet(api.Set{})}, {"set of a truth", api.ErrTest, addSet(api.Set{Expr: []api.Node{{Op: api.True}}})}, {"set of what is not right", api.ErrTest, addSet(api.Set{Expr: []api.Node{{Op: api.Num, N: -1}}})}, {"set of two trees", api.ErrTest, addSet(api.Set{Expr: []api.Node{{Op: api.Num}, {Op: api.Num}}})}, {"set of a variable that is none", api.ErrTest, addSet(api.Set{Expr: []api.Node{{Op: api.Var, N: 99}}})},
	}
	for _, name := range []string{"", "_x", "1", "x y", "clock", "abcdefghijklmnopq", "ä", "x", "n", "c", "A", "never"} {
		l = append(l,
			fault{"clock " + name, api.ErrName, func(n *api.Net) { n.Clocks = append(n.Clocks, name) }},
			fault{"variable " + name, api.ErrName, func(n *api.Net) { n.Vars = append(n.Vars, api.Variable{Name: name}) }},
			fault{"channel " + name, api.ErrName, func(n *api.Net) { n.Chans = append(n.Chans, name) }},
			fault{"automaton " + name, api.ErrName, addAuto(api.Auto{Name: name, Locs: []api.Loc{{Name: "a"}}})},
		)
	}
	for _, name := range []string{"", "_x", "1", "x y", "clock", "abcdefghijklmnopq", "ä", "a", "in"} {
		l = append(l, fault{"location " + name, api.ErrName, addLoc(api.Loc{Name: name})})
	}
	for _, v := range [][3]int{{1, 0, 2}, {0, 3, 2}, {2, 1, 0}, {-api.MaxValue - 1, 0, 0}, {0, 0, api.MaxValue + 1}, {math.MinInt, 0, 0}, {0, 0, math.MaxInt}, {math.MinInt, math.MinInt, math.MinInt}, {math.MaxInt, math.MaxInt, math.MaxInt}, {0, api.MaxValue + 1, api.MaxValue}, {-5, -6, 0}} {
		l = append(l, fault{fmt.Sprint("variable ", v), api.ErrVar, addVar(v[0], v[1], v[2])})
	}
	for _, x := range []int{-1, 99, math.MinInt, math.MaxInt, 1 << 32} {
		l = append(l, fault{fmt.Sprint("From ", x), api.ErrEdge, addEdge(api.Edge{From: x})}, fault{fmt.Sprint("To ", x), api.ErrEdge, addEdge(api.Edge{To: x})}, fault{fmt.Sprint("Chan ", x), api.ErrEdge, addEdge(api.Edge{Chan: x})})
	}
	for _, x := range guardFaults() {
		l = append(l, fault{fmt.Sprint("guard ", x.g), x.err, addGuard(x.g)}, fault{fmt.Sprint("invariant ", x.g), x.err, addInv(x.g)})
	}
	return l
}

// guardFaults are guards that may not be in a network of two clocks, or more if Clock and Other are far from what may be.
func guardFaults() []struct {
	g   api.Guard
	err api.Errno
} {
	type row = struct {
		g   api.Guard
		err api.Errno
	}
	var l []row
	for _, x := range []int{-1, 99, math.MinInt, math.MaxInt, 1 << 32} {
		l = append(l, row{api.Guard{Clock: x, Cmp: api.Lt}, api.ErrClock}, row{api.Guard{Clock: 1, Other: x, Cmp: api.Lt}, api.ErrClock}, row{api.Guard{Clock: x}, api.ErrClock})
	}
	for _, c := range []api.Cmp{0, 6, 7, 255} {
		l = append(l, row{api.Guard{Clock: 1, Cmp: c}, api.ErrForm}, row{api.Guard{Clock: 1, Other: 2, Cmp: c, N: 4}, api.ErrForm}, row{api.Guard{Cmp: c}, api.ErrClock})
	}
	return append(l, row{api.Guard{}, api.ErrClock}, row{api.Guard{Cmp: api.Eq, Other: 1}, api.ErrClock})
}

// TestP10_1Whole: each error alone, and the one that is named first of each two.
func TestP10_1Whole(t *testing.T) {
	l := netFaultTable()
	for _, x := range l {
		n := rich()
		x.do(&n)
		if err := Whole(n); err != x.err || wantWhole(n) != x.err || Right(n) {
			t.Error(x.what, err, wantWhole(n), x.err)
		}
	}
	for _, x := range l {
		for _, y := range l {
			n := rich()
			x.do(&n)
			y.do(&n)
			want := x.err
			if slices.Index(order, y.err) < slices.Index(order, x.err) {
				want = y.err
			}
			if err := Whole(n); err != want {
				t.Fatal(x.what, y.what, err, want)
			}
		}
	}
	for _, n := range []api.Net{small(), rich(), {Autos: []api.Auto{{Name: "A", Locs: []api.Loc{{Name: "A"}}}}}} {
		if Whole(n) != api.OK || !Right(n) {
			t.Error(n, Whole(n))
		}
	}
	if Whole(api.Net{}) != api.ErrRange || Right(api.Net{}) || Whole(api.Net{Clocks: make([]string, 99)}) != api.ErrRange || Whole(api.Net{Autos: []api.Auto{}}) != api.ErrRange {
		t.Error("no automaton")
	}
}

// most is a network with as many of each as may be.
func most() api.Net {
	n := api.Net{Clocks: named("x", api.MaxClocks), Chans: named("c", api.MaxChans)}
	for _, name := range named("n", api.MaxVars) {
		n.Vars = append(n.Vars, api.Variable{Name: name, Lo: -api.MaxValue, Hi: api.MaxValue})
	}
	for _, name := range named("A", api.MaxParts) {
		a := api.Auto{Name: name}
		for _, loc := range named("l", api.MaxLocs) {
			a.Locs = append(a.Locs, api.Loc{Name: loc, Inv: slices.Repeat([]api.Guard{{Clock: 8, Other: 8, Cmp: api.Gt}}, api.MaxGuards)})
		}
		set := api.Set{Var: 15, Expr: deepNumber(api.MaxNodes)}
		e := api.Edge{From: 63, To: 63, Guards: slices.Repeat([]api.Guard{{Clock: 8, Cmp: api.Lt}}, api.MaxGuards), Test: deepTruth(api.MaxNodes), Chan: 16, Send: true, Sets: slices.Repeat([]api.Set{set}, api.MaxSets)}
		a.Edges = slices.Repeat([]api.Edge{e}, api.MaxEdges)
		n.Autos = append(n.Autos, a)
	}
	return n
}

// TestP10_1Limits: as many of each as may be, and one more.
func TestP10_1Limits(t *testing.T) {
	if err := Whole(most()); err != api.OK {
		t.Fatal(err)
	}
	loc := func(n *api.Net) *api.Loc { return &n.Autos[7].Locs[63] }
	edge := func(n *api.Net) *api.Edge { return &n.Autos[7].Edges[255] }
	for i, do := range []func(n *api.Net){
		func(n *api.Net) { n.Clocks = append(n.Clocks, "one") },
		func(n *api.Net) { n.Vars = append(n.Vars, api.Variable{Name: "one"}) },
		func(n *api.Net) { n.Chans = append(n.Chans, "one") },
		func(n *api.Net) { n.Autos = append(n.Autos, api.Auto{Name: "one", Locs: []api.Loc{{Name: "a"}}}) },
		func(n *api.Net) { n.Autos[7].Locs = append(n.Autos[7].Locs, api.Loc{Name: "one"}) },
		func(n *api.Net) { n.Autos[7].Edges = append(n.Autos[7].Edges, api.Edge{}) },
		func(n *api.Net) { loc(n).Inv = append(loc(n).Inv, api.Guard{Clock: 1, Cmp: api.Lt}) },
		func(n *api.Net) { edge(n).Guards = append(edge(n).Guards, api.Guard{Clock: 1, Cmp: api.Lt}) },
		func(n *api.Net) { edge(n).Test = deepTruth(65) },
		func(n *api.Net) { edge(n).Sets = append(slices.Clone(edge(n).Sets), api.Set{Clock: 1}) },
		func(n *api.Net) {
			edge(n).Sets = append(slices.Clone(edge(n).Sets)[:15], api.Set{Expr: deepNumber(65)})
		},
	} {
		n := most()
		do(&n)
		if err := Whole(n); err != api.ErrLong {
			t.Error(i, err)
		}
	}
	// The last of each may be meant, and what is behind it may not.
	for i, do := range []func(n *api.Net){
		func(n *api.Net) { edge(n).From = 64 }, func(n *api.Net) { edge(n).To = 64 }, func(n *api.Net) { edge(n).Chan = 17 },
		func(n *api.Net) { loc(n).Inv[15].Clock = 9 }, func(n *api.Net) { loc(n).Inv[15].Other = 9 }, func(n *api.Net) { edge(n).Guards[15].Clock = 9 },
		func(n *api.Net) { edge(n).Sets[15].Var = 16 }, func(n *api.Net) { edge(n).Sets[15] = api.Set{Clock: 9} },
	} {
		n := most()
		do(&n)
		if err := Whole(n); err != []api.Errno{api.ErrEdge, api.ErrEdge, api.ErrEdge, api.ErrClock, api.ErrClock, api.ErrClock, api.ErrTest, api.ErrClock}[i] {
			t.Error(i, err)
		}
	}
}

// TestP10_1Changed: networks with some things changed, against the words looked for another way.
func TestP10_1Changed(t *testing.T) {
	r := rand.New(rand.NewPCG(10, 1))
	seen := faults{}
	for range 15000 {
		n := someNet(r)
		if err := Whole(n); err != api.OK {
			t.Fatal(n, err)
		}
		for range 1 + r.IntN(3) {
			change(r, &n)
		}
		want := wantWhole(n)
		seen[want]++
		if err := Whole(n); err != want || Right(n) != (want == api.OK) {
			t.Fatalf("%+v: %d, not %d", n, err, want)
		}
	}
	for _, err := range append(order, api.OK) {
		if seen[err] < 80 {
			t.Error("few", err, seen[err])
		}
	}
}

func goalFaultTable() []struct {
	err api.Errno
	p   api.Part
} {
	type row = struct {
		err api.Errno
		p   api.Part
	}
	l := []row{
		{api.ErrLong, api.Part{Locs: make([]api.At, 17)}}, {api.ErrLong, api.Part{Guards: make([]api.Guard, 17)}}, {api.ErrLong, api.Part{Test: deepTruth(65)}},
		{api.ErrTest, api.Part{Test: []api.Node{{Op: api.Num}}}}, {api.ErrTest, api.Part{Test: []api.Node{{}}}}, {api.ErrTest, api.Part{Test: []api.Node{{Op: api.Not}}}}, {api.ErrTest, api.Part{Test: []api.Node{{Op: api.Less}, {Op: api.Var, N: 2}, {Op: api.Num}}}},
		{api.ErrLoc, api.Part{Locs: []api.At{{}, {Auto: 2}}}}, {api.ErrLoc, api.Part{Locs: []api.At{{Loc: 3}}}}, {api.ErrLoc, api.Part{Locs: []api.At{{Auto: 1, Loc: 1}}}},
	}
	for _, x := range []int{-1, 99, math.MinInt, math.MaxInt, 1 << 32} {
		l = append(l, row{api.ErrLoc, api.Part{Locs: []api.At{{Auto: x}}}}, row{api.ErrLoc, api.Part{Locs: []api.At{{Loc: x}}}})
	}
	for _, x := range guardFaults() {
		l = append(l, row{x.err, api.Part{Guards: []api.Guard{x.g}}})
	}
	return l
}

// TestP10_1WholeGoal: each error, the one that is named first of two of two parts, and the network's ahead of all.
func TestP10_1WholeGoal(t *testing.T) {
	n, l := rich(), goalFaultTable()
	bad := rich()
	bad.Autos[0].Edges[0].To = -1
	for _, x := range l {
		for _, g := range []api.Goal{{x.p}, {{}, x.p}, {x.p, {}}} {
			if err := WholeGoal(n, g); err != x.err || wantWholeGoal(n, g) != x.err {
				t.Error(g, err, x.err)
			}
			if err := WholeGoal(bad, g); err != api.ErrEdge {
				t.Error(g, err)
			}
		}
		for _, y := range l {
			want := x.err
			if slices.Index(goalOrder, y.err) < slices.Index(goalOrder, x.err) {
				want = y.err
			}
			if err := WholeGoal(n, api.Goal{x.p, y.p}); err != want {
				t.Fatal(x, y, err, want)
			}
		}
	}
	whole := api.Part{Locs: slices.Repeat([]api.At{{Loc: 2}, {Auto: 1}}, 8), Guards: slices.Repeat([]api.Guard{{Clock: 2, Other: 2, Cmp: api.Gt, N: math.MinInt}}, 16), Test: deepTruth(64)}
	for _, g := range []api.Goal{nil, {}, {{}}, {whole}, slices.Repeat(api.Goal{whole}, 16), slices.Repeat(api.Goal{{}}, 16)} {
		if err := WholeGoal(n, g); err != api.OK {
			t.Error(len(g), err)
		}
		if WholeGoal(bad, g) != api.ErrEdge || WholeGoal(api.Net{}, g) != api.ErrRange {
			t.Error(len(g))
		}
	}
	if WholeGoal(n, make(api.Goal, 17)) != api.ErrLong || WholeGoal(n, append(make(api.Goal, 16), api.Part{Locs: []api.At{{Auto: -1}}})) != api.ErrLong {
		t.Error("parts")
	}
}

// TestP10_1GoalChanged: against the words looked for another way.
func TestP10_1GoalChanged(t *testing.T) {
	r := rand.New(rand.NewPCG(10, 2))
	seen := faults{}
	for range 15000 {
		n := someNet(r)
		g := someGoal(r, n)
		if err := WholeGoal(n, g); err != api.OK {
			t.Fatal(n, g, err)
		}
		for range 1 + r.IntN(3) {
			change(r, &g)
		}
		if r.IntN(20) == 0 {
			change(r, &n)
		}
		want := wantWholeGoal(n, g)
		seen[want]++
		if err := WholeGoal(n, g); err != want {
			t.Fatalf("%+v %+v: %d, not %d", n, g, err, want)
		}
	}
	for _, err := range append(goalOrder, api.OK) {
		if seen[err] < 80 {
			t.Error("few", err, seen[err])
		}
	}
}

// TestP10_1Same: against a comparison of all fields; with an empty list for nil.
func TestP10_1Same(t *testing.T) {
	r := rand.New(rand.NewPCG(10, 3))
	unlike := 0
	for range 6000 {
		n := someNet(r)
		g := someGoal(r, n)
		m, h := Copy(n), CopyGoal(g)
		if !Same(n, m) || !SameGoal(g, h) || !alike(n, m) || !alike(g, h) {
			t.Fatal(n, m, g, h)
		}
		change(r, &m)
		change(r, &h)
		if Same(n, m) != alike(n, m) || Same(m, n) != alike(n, m) || SameGoal(g, h) != alike(g, h) || SameGoal(h, g) != alike(g, h) {
			t.Fatalf("%+v %+v %+v %+v", n, m, g, h)
		}
		if !alike(n, m) {
			unlike++
		}
	}
	if unlike < 3000 {
		t.Error("few", unlike)
	}
	empty := api.Net{Clocks: []string{}, Vars: []api.Variable{}, Chans: []string{}, Autos: []api.Auto{}}
	if !Same(api.Net{}, empty) || !Same(empty, api.Net{}) || !SameGoal(nil, api.Goal{}) || !SameGoal(api.Goal{}, nil) || SameGoal(nil, api.Goal{{}}) {
		t.Error("empty")
	}
	filled := api.Net{Autos: []api.Auto{{Locs: []api.Loc{{Inv: []api.Guard{}}}, Edges: []api.Edge{{Guards: []api.Guard{}, Test: []api.Node{}, Sets: []api.Set{{Expr: []api.Node{}}}}}}}}
	bare := api.Net{Autos: []api.Auto{{Locs: []api.Loc{{}}, Edges: []api.Edge{{Sets: []api.Set{{}}}}}}}
	if !Same(filled, bare) || !Same(bare, filled) || !Same(Copy(filled), bare) {
		t.Error("filled")
	}
	if !SameGoal(api.Goal{{Locs: []api.At{}, Guards: []api.Guard{}, Test: []api.Node{}}}, api.Goal{{}}) {
		t.Error("part")
	}
}

// TestP10_1Copy: of what is not whole, too.
func TestP10_1Copy(t *testing.T) {
	r := rand.New(rand.NewPCG(10, 4))
	for range 3000 {
		n := someNet(r)
		g := someGoal(r, n)
		for range r.IntN(4) {
			change(r, &n)
			change(r, &g)
		}
		m, h := Copy(n), CopyGoal(g)
		if !alike(n, m) || !alike(g, h) {
			t.Fatal(n, m, g, h)
		}
		again, twice := Copy(n), CopyGoal(g)
		if shared(m, again) || shared(h, twice) {
			t.Fatal("two copies share a list")
		}
	}
	if !alike(Copy(api.Net{}), api.Net{}) || len(CopyGoal(nil)) != 0 {
		t.Error("empty")
	}
}

// TestP10_2Find: against a walk over all names.
func TestP10_2Find(t *testing.T) {
	n := rich()
	for name, want := range map[string][2]int{"x": {1, 1}, "y": {1, 2}, "n": {2, 0}, "m": {2, 1}, "c": {3, 1}, "d": {3, 2}, "A": {4, 0}, "B": {4, 1}, "a": {}, "b": {}, "": {}, "q": {}, "X": {}, "x ": {}} {
		if k, i := Find(n, name); int(k) != want[0] || i != want[1] {
			t.Error(name, k, i)
		}
	}
	if None != 0 || Clock != 1 || Variable != 2 || Channel != 3 || Automaton != 4 {
		t.Error("kinds")
	}
	if k, i := Find(api.Net{}, ""); k != None || i != 0 {
		t.Error(k, i)
	}
	// The first one, of kinds in their order, of networks that are not whole, too.
	all := api.Net{Clocks: []string{"a", "s", "s"}, Vars: []api.Variable{{Name: "b"}, {Name: "s"}, {Name: "v"}, {Name: "v"}}, Chans: []string{"v", "e", "s", "f", "f"}, Autos: []api.Auto{{Name: "f"}, {}, {Name: "s"}, {Name: "g"}, {Name: "g"}}}
	for name, want := range map[string][2]int{"s": {1, 2}, "v": {2, 2}, "f": {3, 4}, "g": {4, 3}, "": {4, 1}, "e": {3, 2}} {
		if k, i := Find(all, name); int(k) != want[0] || i != want[1] {
			t.Error(name, k, i)
		}
	}
}

// TestP10_2FindLoc: the first one of that automaton; none of an automaton that is none.
func TestP10_2FindLoc(t *testing.T) {
	n := rich()
	n.Autos = append(n.Autos, api.Auto{}, api.Auto{Locs: []api.Loc{{Name: "q"}, {}, {Name: "r"}, {Name: "r"}, {}}})
	for _, x := range []struct {
		auto int
		name string
		want int
		ok   bool
	}{
		{0, "a", 0, true}, {0, "b", 1, true}, {0, "A", 2, true}, {0, "c", 0, false}, {0, "", 0, false}, {1, "a", 0, true}, {1, "b", 0, false}, {2, "a", 0, false}, {2, "", 0, false},
		{3, "q", 0, true}, {3, "r", 2, true}, {3, "", 1, true}, {3, "s", 0, false}, {4, "a", 0, false}, {-1, "a", 0, false}, {math.MinInt, "a", 0, false}, {math.MaxInt, "a", 0, false}, {1 << 32, "a", 0, false},
	} {
		if i, ok := FindLoc(n, x.auto, x.name); i != x.want || ok != x.ok {
			t.Error(x, i, ok)
		}
	}
	if i, ok := FindLoc(api.Net{}, 0, ""); i != 0 || ok {
		t.Error(i, ok)
	}
}

// TestP10_2Names: in order, whatever they are.
func TestP10_2Names(t *testing.T) {
	if l := Names(rich()); !slices.Equal(l, []string{"n", "m"}) {
		t.Error(l)
	}
	if l := Names(api.Net{Vars: []api.Variable{{Name: "q"}, {}, {Name: "b"}, {Name: "q"}}}); !slices.Equal(l, []string{"q", "", "b", "q"}) {
		t.Error(l)
	}
	if len(Names(small())) != 0 || len(Names(api.Net{})) != 0 {
		t.Error("none")
	}
}

// TestP10_3Print: the examples, and texts made another way.
func TestP10_3Print(t *testing.T) {
	for _, x := range []struct {
		n    api.Net
		want string
	}{
		{small(), "clock x;\nauto A {\n  loc a inv x <= 5;\n  loc b;\n  edge a -> b when x >= 3 do x := 0;\n}\n"},
		{rich(), richText},
		{api.Net{Autos: []api.Auto{{Name: "A", Locs: []api.Loc{{Name: "a"}}}}}, "auto A {\n  loc a;\n}\n"},
	} {
		if s, err := Print(x.n); s != x.want || err != api.OK {
			t.Error(s, err)
		}
	}
	r := rand.New(rand.NewPCG(10, 5))
	for range 6000 {
		n := someNet(r)
		if s, err := Print(n); s != wantText(n) || err != api.OK {
			t.Fatalf("%s, not %s (%d)", s, wantText(n), err)
		}
		change(r, &n)
		if want := wantWhole(n); want != api.OK {
			if s, err := Print(n); s != "" || err != want {
				t.Fatal(n, s, err, want)
			}
		}
	}
	for _, x := range netFaultTable() {
		n := rich()
		x.do(&n)
		if s, err := Print(n); s != "" || err != x.err {
			t.Error(x.what, s, err)
		}
	}
}

// TestP10_3Numbers: of any size.
func TestP10_3Numbers(t *testing.T) {
	for _, k := range []int{0, -1, 10, api.MaxConst, api.MaxConst + 1, math.MaxInt, math.MinInt} {
		n := small()
		n.Autos[0].Locs[0].Inv[0].N, n.Autos[0].Edges[0].Guards[0].N, n.Autos[0].Edges[0].Sets[0].N = k, k, k
		want := fmt.Sprintf("clock x;\nauto A {\n  loc a inv x <= %d;\n  loc b;\n  edge a -> b when x >= %d do x := %d;\n}\n", k, k, k)
		if s, err := Print(n); s != want || err != api.OK {
			t.Error(s, err)
		}
		if s, err := PrintGuard(n, api.Guard{Clock: 1, Cmp: api.Eq, N: k}); s != fmt.Sprintf("x == %d", k) || err != api.OK {
			t.Error(s, err)
		}
	}
}

// sized is a network whose text has so many bytes.
func sized(t *testing.T, bytes int) api.Net {
	n := small()
	a := &n.Autos[0]
	for range 200 {
		a.Edges = append(a.Edges, api.Edge{Guards: slices.Repeat([]api.Guard{{Clock: 1, Cmp: api.Lt, N: 1}}, 16)})
	}
	more := bytes - len(wantText(n))
	for i := range a.Edges {
		for j := range a.Edges[i].Guards {
			for more > 0 && a.Edges[i].Guards[j].N < 1<<50 {
				a.Edges[i].Guards[j].N *= 10
				more--
			}
		}
	}
	if more != 0 || len(wantText(n)) != bytes {
		t.Fatal(more, len(wantText(n)))
	}
	return n
}

// TestP10_3Long: texts of MaxText bytes, and above.
func TestP10_3Long(t *testing.T) {
	for _, bytes := range []int{api.MaxText - 1, api.MaxText} {
		n := sized(t, bytes)
		if s, err := Print(n); s != wantText(n) || err != api.OK {
			t.Error(bytes, len(s), err)
		}
	}
	for _, bytes := range []int{api.MaxText + 1, api.MaxText + 2} {
		if s, err := Print(sized(t, bytes)); s != "" || err != api.ErrLong {
			t.Error(bytes, len(s), err)
		}
	}
	// What comes last counts, too.
	for tail, err := range map[string]api.Errno{"A1": api.OK, "A12": api.ErrLong} {
		n := sized(t, api.MaxText-len("auto A1 {\n  loc a;\n}\n"))
		n.Autos = append(n.Autos, api.Auto{Name: tail, Locs: []api.Loc{{Name: "a"}}})
		if s, e := Print(n); e != err || e == api.OK && s != wantText(n) {
			t.Error(tail, e)
		}
	}
	if s, err := Print(most()); s != "" || err != api.ErrLong {
		t.Error(len(s), err)
	}
	wrong := most()
	wrong.Autos[7].Edges[255].Sets[15].Var = 16
	if s, err := Print(wrong); s != "" || err != api.ErrTest {
		t.Error(len(s), err)
	}
}

// TestP10_3PrintGoal: the examples, the edges, and texts made another way.
func TestP10_3PrintGoal(t *testing.T) {
	or := []api.Node{{Op: api.Or}, {Op: api.True}, {Op: api.True}}
	truth := []api.Node{{Op: api.True}}
	g := api.Goal{{Locs: []api.At{{Loc: 1}}, Guards: []api.Guard{{Clock: 1, Cmp: api.Gt, N: 7}}}, {}}
	for _, x := range []struct {
		g    api.Goal
		want string
	}{
		{g, "A.b && x > 7 || true"}, {nil, ""}, {api.Goal{}, ""}, {api.Goal{{}}, "true"}, {api.Goal{{}, {}}, "true || true"},
		{api.Goal{{Test: truth}}, "(true)"}, {api.Goal{{Test: or}}, "(true || true)"}, {api.Goal{{Test: append([]api.Node{{Op: api.Not}}, or...)}}, "!(true || true)"}, {api.Goal{{Test: append([]api.Node{{Op: api.And}, {Op: api.True}}, or...)}}, "true && (true || true)"},
		{api.Goal{{Locs: []api.At{{}, {Loc: 1}}, Guards: []api.Guard{{Clock: 1, Other: 1, Cmp: api.Le, N: -4}, {Clock: 1, Cmp: api.Eq}}, Test: truth}, {Test: or}, {Locs: []api.At{{}}}}, "A.a && A.b && x - x <= -4 && x == 0 && (true) || (true || true) || A.a"},
	} {
		if s, err := PrintGoal(small(), x.g); s != x.want || err != api.OK {
			t.Errorf("%q, not %q (%d)", s, x.want, err)
		}
	}
	r := rand.New(rand.NewPCG(10, 6))
	for range 6000 {
		n := someNet(r)
		g := someGoal(r, n)
		if s, err := PrintGoal(n, g); s != wantGoalText(n, g) || err != api.OK {
			t.Fatalf("%s, not %s (%d)", s, wantGoalText(n, g), err)
		}
		change(r, &g)
		if want := wantWholeGoal(n, g); want != api.OK {
			if s, err := PrintGoal(n, g); s != "" || err != want {
				t.Fatal(n, g, s, err, want)
			}
		}
	}
	for _, x := range goalFaultTable() {
		if s, err := PrintGoal(rich(), api.Goal{{}, x.p}); s != "" || err != x.err {
			t.Error(x, s, err)
		}
		if s, err := PrintGoal(api.Net{}, api.Goal{x.p}); s != "" || err != api.ErrRange {
			t.Error(x, s, err)
		}
	}
	// A network whose own text would be too long has goals all the same.
	if s, err := PrintGoal(most(), api.Goal{{Locs: []api.At{{Auto: 7, Loc: 63}}}}); s != "A7.l63" || err != api.OK {
		t.Error(s, err)
	}
}

// TestP10_3PrintGuard: its text, and each error.
func TestP10_3PrintGuard(t *testing.T) {
	n := rich()
	for clock := 1; clock <= 2; clock++ {
		for other := 0; other <= 2; other++ {
			for c := api.Lt; c <= api.Gt; c++ {
				g := api.Guard{Clock: clock, Other: other, Cmp: c, N: 3 * (other - 1)}
				if s, err := PrintGuard(n, g); s != wantGuard(n, g) || err != api.OK {
					t.Error(g, s, err)
				}
			}
		}
	}
	if s, err := PrintGuard(n, api.Guard{Clock: 2, Other: 1, Cmp: api.Ge, N: -7}); s != "y - x >= -7" || err != api.OK {
		t.Error(s, err)
	}
	bad := rich()
	bad.Chans[1] = "c"
	for _, x := range guardFaults() {
		if s, err := PrintGuard(n, x.g); s != "" || err != x.err {
			t.Error(x, s, err)
		}
		if s, err := PrintGuard(bad, x.g); s != "" || err != api.ErrName {
			t.Error(x, s, err)
		}
	}
	if s, err := PrintGuard(bad, api.Guard{Clock: 1, Cmp: api.Lt}); s != "" || err != api.ErrName {
		t.Error(s, err)
	}
	for _, g := range []api.Guard{{Clock: 3, Cmp: api.Lt}, {Clock: 1, Other: 3, Cmp: api.Lt}, {Clock: 0, Cmp: api.Lt}, {Clock: 3}} {
		if s, err := PrintGuard(n, g); s != "" || err != api.ErrClock {
			t.Error(g, s, err)
		}
	}
}

// TestP10_4Unlike: what differs in one thing, or is made anew, has another text.
func TestP10_4Unlike(t *testing.T) {
	r := rand.New(rand.NewPCG(10, 7))
	nets, compared := map[string]api.Net{}, 0
	for range 10000 {
		n := someNet(r)
		m := Copy(n)
		change(r, &m)
		for _, x := range []api.Net{n, m} {
			s, err := Print(x)
			if err != api.OK {
				continue
			}
			if old, ok := nets[s]; ok && !alike(old, x) {
				t.Fatalf("%s: %+v %+v", s, old, x)
			}
			nets[s] = x
			compared++
		}
	}
	if compared < 10000 {
		t.Error("few", compared)
	}
	n := rich()
	goals, compared := map[string]api.Goal{}, 0
	for range 30000 {
		g := someGoal(r, n)
		change(r, &g)
		s, err := PrintGoal(n, g)
		if err != api.OK {
			continue
		}
		if old, ok := goals[s]; ok && !alike(old, g) {
			t.Fatalf("%s: %+v %+v", s, old, g)
		}
		goals[s] = g
		compared++
	}
	if compared < 10000 {
		t.Error("few", compared)
	}
}

// TestP10_5Copy: nothing that is done with a copy's lists shows.
func TestP10_5Copy(t *testing.T) {
	r := rand.New(rand.NewPCG(10, 8))
	for range 3000 {
		n := someNet(r)
		g := someGoal(r, n)
		m, h := Copy(n), CopyGoal(g)
		if !Same(n, m) || !SameGoal(g, h) || shared(n, m) || shared(g, h) {
			t.Fatal(n, m)
		}
	}
	n := rich()
	m := Copy(n)
	m.Clocks[0], m.Vars[0].Name, m.Chans[0], m.Autos[1].Name = "q", "q", "q", "q"
	m.Autos[0].Locs[0].Inv[0].N++
	m.Autos[0].Locs[1].Name = "q"
	m.Autos[0].Edges[1].To = 0
	e := &m.Autos[0].Edges[0]
	e.Guards[0].N++
	e.Test[0].Op = api.True
	e.Sets[0].N++
	e.Sets[1].Expr[0].Op = api.Mul
	if s, _ := Print(n); s != richText {
		t.Error(s)
	}
}

// TestP10_6Same: the same both ways, and whole if the other one is.
func TestP10_6Same(t *testing.T) {
	r := rand.New(rand.NewPCG(10, 9))
	var l []api.Net
	for range 300 {
		n := someNet(r)
		m := Copy(n)
		change(r, &m)
		l = append(l, n, m)
	}
	l = append(l, api.Net{}, small(), small(), rich(), most())
	for _, a := range l {
		for _, b := range l {
			same := Same(a, b)
			if same != Same(b, a) || same && Whole(a) != Whole(b) {
				t.Fatalf("%+v %+v", a, b)
			}
		}
	}
}

// TestP3StaysAsItIs: no call changes what it is handed, spare room too, or answers a list of it.
func TestP3StaysAsItIs(t *testing.T) {
	room := func() (api.Net, api.Goal) {
		n := rich()
		n.Clocks = append(n.Clocks, "sp1", "sp2")[:2]
		n.Vars = append(n.Vars, api.Variable{Name: "sp3"}, api.Variable{Name: "sp4"})[:2]
		n.Chans = append(n.Chans, "sp5", "sp6")[:2]
		e := &n.Autos[0].Edges[0]
		e.Test = append(slices.Clone(e.Test), api.Node{N: 77}, api.Node{N: 78})[:3]
		e.Guards = append(e.Guards, api.Guard{N: 79})[:2]
		e.Sets = append(e.Sets, api.Set{N: 80})[:3]
		return n, api.Goal{{Locs: make([]api.At, 1, 3), Guards: append([]api.Guard{{Clock: 1, Cmp: api.Lt}}, api.Guard{N: 5})[:1], Test: append(slices.Clone(e.Test), api.Node{N: 9})[:3]}, {Test: []api.Node{{N: 6}}}}[:1]
	}
	n, g := room()
	Whole(n)
	Right(n)
	WholeGoal(n, g)
	m, h := Copy(n), CopyGoal(g)
	Same(n, n)
	SameGoal(g, g)
	Find(n, "sp1")
	FindLoc(n, 0, "q")
	names := Names(n)
	Print(n)
	PrintGoal(n, g)
	PrintGuard(n, g[0].Guards[0])
	n2, g2 := room()
	wide := func(n api.Net, g api.Goal) []any {
		e := n.Autos[0].Edges[0]
		return []any{n, n.Clocks[:4], n.Vars[:4], n.Chans[:4], e.Test[:5], e.Guards[:3], e.Sets[:4], g[:2], g[0].Locs[:3], g[0].Guards[:2], g[0].Test[:4]}
	}
	for i, x := range wide(n, g) {
		if !alike(x, wide(n2, g2)[i]) {
			t.Error(i, x)
		}
	}
	names[0] = "q"
	if Names(n)[0] != "n" || shared(n.Clocks, m) || shared(g, h) {
		t.Error("names")
	}
}

// FuzzP10_1: whatever a network is made of.
func FuzzP10_1(f *testing.F) {
	f.Add(uint64(1), uint64(2), 3, "x")
	f.Fuzz(func(t *testing.T, a, b uint64, changes int, name string) {
		r := rand.New(rand.NewPCG(a, b))
		n := someNet(r)
		g := someGoal(r, n)
		for range min(max(changes, 0), 9) {
			change(r, &n)
			change(r, &g)
		}
		if Whole(n) != wantWhole(n) || WholeGoal(n, g) != wantWholeGoal(n, g) {
			t.Error(Whole(n), wantWhole(n))
		}
		if s, err := Print(n); err == api.OK && s != wantText(n) {
			t.Error(s)
		}
		if s, err := PrintGoal(n, g); err == api.OK && (s != wantGoalText(n, g) || strings.Contains(s, "\n")) {
			t.Error(s)
		}
		Find(n, name)
		FindLoc(n, changes, name)
	})
}
