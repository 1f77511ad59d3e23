package replay

import (
	"cmp"
	"fmt"
	"math"
	"math/big"
	"math/rand/v2"
	"reflect"
	"slices"
	"strings"
	"testing"

	"gnomon/api"
	"gnomon/check"
	"gnomon/parse"
	"gnomon/state"
)

func source(seed uint64) *rand.Rand { return rand.New(rand.NewPCG(21, seed)) }

// said is the network that a text says.
func said(t testing.TB, s string) api.Net {
	t.Helper()
	n, err, at := parse.Net(s)
	if err != api.OK {
		t.Fatal(s, err, at)
	}
	return n
}

// aim is the goal that a text says; of no text that of no part.
func aim(t testing.TB, n api.Net, s string) api.Goal {
	t.Helper()
	if s == "" {
		return nil
	}
	g, err, at := parse.Goal(n, s)
	if err != api.OK {
		t.Fatal(s, err, at)
	}
	return g
}

// frac is the fraction that a text says, right or not.
func frac(t testing.TB, s string) api.Rat {
	t.Helper()
	r := api.Rat{Den: 1}
	if !strings.Contains(s, "/") {
		s += "/1"
	}
	if _, err := fmt.Sscanf(s, "%d/%d", &r.Num, &r.Den); err != nil {
		t.Fatal(s, err)
	}
	return r
}

// at is a configuration by its text: that of the state, a blank, and the clocks with blanks between.
func at(t testing.TB, n api.Net, s string) Config {
	t.Helper()
	words := strings.Fields(s)
	where, err := state.Parse(n, words[0])
	if err != api.OK {
		t.Fatal(s, err)
	}
	c := Config{State: where}
	for _, word := range words[1:] {
		c.Clocks = append(c.Clocks, frac(t, word))
	}
	return c
}

// number is the text of a fraction, right or not.
func number(r api.Rat) string {
	if r.Den == 1 {
		return fmt.Sprint(r.Num)
	}
	return fmt.Sprintf("%d/%d", r.Num, r.Den)
}

// textOf is the text of a configuration.
func textOf(n api.Net, c Config) string {
	text, err := state.Print(n, c.State)
	if err != api.OK {
		return fmt.Sprint("no state: ", c)
	}
	for _, x := range c.Clocks {
		text += " " + number(x)
	}
	return text
}

// is holds an answer to the text of a configuration.
func is(t testing.TB, n api.Net, want string) func(Config, api.Errno) {
	return func(c Config, err api.Errno) {
		t.Helper()
		if err != api.OK || textOf(n, c) != want {
			t.Errorf("%s %d, not %s", textOf(n, c), err, want)
		}
	}
}

// isErr holds an answer to an error, beside which nothing is told.
func isErr(t testing.TB, want api.Errno) func(Config, api.Errno) {
	return func(c Config, err api.Errno) {
		t.Helper()
		if err != want || c.State.Locs != nil || c.State.Vars != nil || c.Clocks != nil {
			t.Errorf("%v %d, not %d", c, err, want)
		}
	}
}

const small = "clock x; auto A { loc a inv x <= 5; loc b; edge a -> b when x >= 3 do x := 0; }"

// rich has something of everything.
const rich = `clock x, y; int n in 0 .. 3 := 0; int m in -9 .. 9 := 2; chan c, d;
	auto A {
		loc a inv x <= 5; loc b inv y < 7 && x >= 1; loc k committed;
		edge a -> b when x >= 3 && n < 3 sync c! do x := 1, n := n + 1, y := 2;
		edge a -> k when n == 0 && x > 1 do m := 0 - m, x := 7;
		edge k -> a do y := 0;
		edge b -> a when y == 4 sync d!;
	}
	auto B {
		loc a; loc u urgent inv y <= 6; loc b inv x <= 9;
		edge a -> u when y < 4 && m > 0 sync c? do m := m * 2, x := 3;
		edge u -> b when x >= 2;
		edge b -> a sync d? do y := 5, y := 1;
	}`

const richGoal = "A.a && B.a && x > 3 && n > 0 || y >= 2 && y < 3 || A.b && n == 1"

// fault is a network and a goal, and their error.
type fault struct {
	n   api.Net
	g   api.Goal
	err api.Errno
}

// wrongNets are networks that are not right, by each of the errors of chapters 10 and 12.
func wrongNets(t testing.TB) []fault {
	l := []fault{{err: api.ErrRange}, {n: api.Net{Clocks: []string{"x", "y"}}, err: api.ErrRange}}
	for _, c := range []struct {
		err    api.Errno
		change func(n *api.Net)
	}{
		{api.ErrRange, func(n *api.Net) { n.Autos[1].Locs = nil }},
		{api.ErrLong, func(n *api.Net) { n.Clocks = slices.Repeat(n.Clocks, 5) }},
		{api.ErrName, func(n *api.Net) { n.Autos[0].Name = "n" }},
		{api.ErrVar, func(n *api.Net) { n.Vars[0].Init = 4 }},
		{api.ErrLoc, func(n *api.Net) { n.Autos[0].Locs[2].Kind = 3 }},
		{api.ErrEdge, func(n *api.Net) { n.Autos[0].Edges[0].To = 3 }},
		{api.ErrClock, func(n *api.Net) { n.Autos[0].Locs[0].Inv[0].Clock = 3 }},
		{api.ErrForm, func(n *api.Net) { n.Autos[0].Edges[0].Guards[0].Cmp = 0 }},
		{api.ErrTest, func(n *api.Net) { n.Autos[0].Edges[0].Test = n.Autos[0].Edges[0].Test[1:] }},
		{api.ErrDiagonal, func(n *api.Net) { n.Autos[0].Edges[0].Guards[0].Other = 2 }},
		{api.ErrConst, func(n *api.Net) { n.Autos[1].Edges[1].Guards[0].N = api.MaxConst + 1 }},
		{api.ErrConst, func(n *api.Net) { n.Autos[0].Edges[2].Sets[0].N = -1 }},
	} {
		w := fault{said(t, rich), nil, c.err}
		c.change(&w.n)
		l = append(l, w)
	}
	for _, w := range l {
		if err := check.Net(w.n); err != w.err {
			t.Fatal(err, w.err)
		}
	}
	return l
}

// wrongGoals are goals that are not right for the rich network, by each of their errors.
func wrongGoals(t testing.TB) []fault {
	n := said(t, rich)
	var l []fault
	for _, c := range []struct {
		err    api.Errno
		change func(g *api.Goal)
	}{
		{api.ErrLong, func(g *api.Goal) { *g = make(api.Goal, api.MaxGoal+1) }},
		{api.ErrLong, func(g *api.Goal) { (*g)[2].Locs = make([]api.At, api.MaxGoal+1) }},
		{api.ErrLoc, func(g *api.Goal) { (*g)[0].Locs[1].Auto = 2 }},
		{api.ErrLoc, func(g *api.Goal) { (*g)[2].Locs[0].Loc = -1 }},
		{api.ErrClock, func(g *api.Goal) { (*g)[0].Guards[0].Clock = 0 }},
		{api.ErrForm, func(g *api.Goal) { (*g)[1].Guards[0].Cmp = 6 }},
		{api.ErrTest, func(g *api.Goal) { (*g)[2].Test = (*g)[2].Test[1:] }},
		{api.ErrDiagonal, func(g *api.Goal) { (*g)[1].Guards[0].Other = 2 }},
		{api.ErrConst, func(g *api.Goal) { (*g)[0].Guards[0].N = -1 }},
		{api.ErrConst, func(g *api.Goal) { (*g)[1].Guards[0].N = api.MaxConst + 1 }},
	} {
		w := fault{n, aim(t, n, richGoal), c.err}
		c.change(&w.g)
		if err := check.Goal(n, w.g); err != c.err {
			t.Fatal(err, c.err)
		}
		l = append(l, w)
	}
	return l
}

// wrongConfigs are none of the rich network, each by one thing.
func wrongConfigs(t testing.TB) []Config {
	l := []Config{{}}
	for _, change := range []func(c *Config){
		func(c *Config) { c.State.Locs = c.State.Locs[:1] },
		func(c *Config) { c.State.Locs = append(c.State.Locs, 0) },
		func(c *Config) { c.State.Locs[0] = -1 },
		func(c *Config) { c.State.Locs[1] = 3 },
		func(c *Config) { c.State.Vars = c.State.Vars[:1] },
		func(c *Config) { c.State.Vars = append(c.State.Vars, 0) },
		func(c *Config) { c.State.Vars[0] = -1 },
		func(c *Config) { c.State.Vars[1] = 10 },
		func(c *Config) { c.Clocks = nil },
		func(c *Config) { c.Clocks = c.Clocks[:1] },
		func(c *Config) { c.Clocks = append(c.Clocks, frac(t, "0")) },
		func(c *Config) { c.Clocks[0] = api.Rat{} },
		func(c *Config) { c.Clocks[1] = frac(t, "2/4") },
		func(c *Config) { c.Clocks[1] = frac(t, "0/2") },
		func(c *Config) { c.Clocks[0] = frac(t, "1/0") },
		func(c *Config) { c.Clocks[1] = frac(t, "1/-2") },
		func(c *Config) { c.Clocks[0] = frac(t, "-1") },
		func(c *Config) { c.Clocks[1] = frac(t, "-1/2") },
		func(c *Config) { c.Clocks[1] = frac(t, "-9223372036854775808") },
	} {
		c := at(t, said(t, rich), "A.a,B.a;n=0,m=2 3 3")
		change(&c)
		l = append(l, c)
	}
	return l
}

func bigOf(r api.Rat) *big.Rat { return big.NewRat(r.Num, r.Den) }

// held is the fraction of a number; false: int64 cannot hold its terms.
func held(x *big.Rat) (api.Rat, bool) {
	return api.Rat{Num: x.Num().Int64(), Den: x.Denom().Int64()}, x.Num().IsInt64() && x.Denom().IsInt64()
}

// isRight tells by the words whether a fraction is right.
func isRight(r api.Rat) bool {
	if r.Den < 1 {
		return false
	}
	x, _ := held(bigOf(r))
	return x == r
}

// areKept tells whether guards hold of clocks.
func areKept(clocks []api.Rat, guards []api.Guard) bool {
	for _, g := range guards {
		side := bigOf(clocks[g.Clock-1]).Cmp(big.NewRat(int64(g.N), 1))
		if !map[api.Cmp]bool{api.Lt: side < 0, api.Le: side <= 0, api.Eq: side == 0, api.Ge: side >= 0, api.Gt: side > 0}[g.Cmp] {
			return false
		}
	}
	return true
}

func invariantsOf(n api.Net, s api.State) []api.Guard {
	var l []api.Guard
	for i, a := range n.Autos {
		l = append(l, a.Locs[s.Locs[i]].Inv...)
	}
	return l
}

func keepsInvariants(n api.Net, c Config) bool { return areKept(c.Clocks, invariantsOf(n, c.State)) }

func mayWait(n api.Net, s api.State) bool {
	for i, a := range n.Autos {
		if a.Locs[s.Locs[i]].Kind != api.Plain {
			return false
		}
	}
	return true
}

// wantWait is Wait by the words, of a configuration of a right network.
func wantWait(n api.Net, c Config, d api.Rat) (Config, api.Errno) {
	if !isRight(d) || d.Num < 0 || d.Num > 0 && !mayWait(n, c.State) {
		return Config{}, api.ErrDelay
	}
	next := Config{State: c.State}
	for _, x := range c.Clocks {
		sum, ok := held(new(big.Rat).Add(bigOf(x), bigOf(d)))
		if !ok {
			return Config{}, api.ErrOver
		}
		next.Clocks = append(next.Clocks, sum)
	}
	if !keepsInvariants(n, next) {
		return Config{}, api.ErrInv
	}
	return next, api.OK
}

// worth is the value of a tree, of a truth 1 or 0; false: int64 can't hold one that is looked at. And the nodes behind the tree.
func worth(l []api.Node, vars []int) (*big.Int, bool, []api.Node) {
	head, rest := l[0], l[1:]
	switch head.Op {
	case api.Num:
		return big.NewInt(int64(head.N)), true, rest
	case api.Var:
		return big.NewInt(int64(vars[head.N])), true, rest
	case api.True:
		return big.NewInt(1), true, rest
	}
	a, some, rest := worth(rest, vars)
	if head.Op == api.Neg {
		v := new(big.Int).Neg(a)
		return v, some && v.IsInt64(), rest
	}
	if head.Op == api.Not {
		return new(big.Int).Sub(big.NewInt(1), a), some, rest
	}
	b, other, rest := worth(rest, vars)
	side := a.Cmp(b)
	v := new(big.Int)
	truth := func(is bool) *big.Int { return big.NewInt(map[bool]int64{true: 1}[is]) }
	switch head.Op {
	case api.Add:
		v.Add(a, b)
	case api.Sub:
		v.Sub(a, b)
	case api.Mul:
		v.Mul(a, b)
	case api.And:
		return truth(a.Sign() > 0 && b.Sign() > 0), some && (a.Sign() == 0 || other), rest
	case api.Or:
		return truth(a.Sign() > 0 || b.Sign() > 0), some && (a.Sign() > 0 || other), rest
	default:
		v = truth(map[api.Op]bool{api.Less: side < 0, api.AtMost: side <= 0, api.Equal: side == 0, api.Unlike: side != 0}[head.Op])
	}
	return v, some && other && v.IsInt64(), rest
}

// isTrue tells whether a test holds; one without a value does not.
func isTrue(l []api.Node, vars []int) bool {
	if len(l) == 0 {
		return true
	}
	v, some, _ := worth(l, vars)
	return some && v.Sign() > 0
}

// side is what one automaton does in a move.
type side struct {
	auto int
	api.Edge
}

// sidesOf are the edges of a move, the sender's first; false: it is none of the network.
func sidesOf(n api.Net, m api.Move) ([]side, bool) {
	var l []side
	ends := [][2]int{{m.Auto, m.Edge}}
	if m.With != 0 {
		ends = append(ends, [2]int{m.With - 1, m.Take})
	}
	for _, w := range ends {
		if w[0] < 0 || w[0] >= len(n.Autos) || w[1] < 0 || w[1] >= len(n.Autos[w[0]].Edges) {
			return nil, false
		}
		l = append(l, side{w[0], n.Autos[w[0]].Edges[w[1]]})
	}
	if len(l) == 1 {
		return l, l[0].Chan == 0 && m.Take == 0
	}
	return l, l[0].Chan > 0 && l[0].Chan == l[1].Chan && l[0].Send && !l[1].Send && l[0].auto != l[1].auto
}

// wantDo is Do by the words, of a configuration of a right network.
func wantDo(n api.Net, c Config, m api.Move) (Config, api.Errno) {
	l, ok := sidesOf(n, m)
	if !ok {
		return Config{}, api.ErrMove
	}
	others, own := 0, 0
	for i, a := range n.Autos {
		if a.Locs[c.State.Locs[i]].Kind == api.Committed {
			if slices.ContainsFunc(l, func(s side) bool { return s.auto == i }) {
				own++
			} else {
				others++
			}
		}
	}
	if others > 0 && own == 0 || slices.ContainsFunc(l, func(s side) bool { return c.State.Locs[s.auto] != s.From }) {
		return Config{}, api.ErrMove
	}
	next := Config{api.State{Locs: slices.Clone(c.State.Locs), Vars: slices.Clone(c.State.Vars)}, slices.Clone(c.Clocks)}
	fits := true
	for _, s := range l {
		fits = fits && areKept(c.Clocks, s.Guards) && isTrue(s.Test, c.State.Vars)
	}
	for _, s := range l {
		next.State.Locs[s.auto] = s.To
		for _, x := range s.Sets {
			if x.Clock > 0 {
				next.Clocks[x.Clock-1] = api.Rat{Num: int64(x.N), Den: 1}
				continue
			}
			v, some, _ := worth(x.Expr, next.State.Vars)
			if lo, hi := n.Vars[x.Var].Lo, n.Vars[x.Var].Hi; !some || v.Cmp(big.NewInt(int64(lo))) < 0 || v.Cmp(big.NewInt(int64(hi))) > 0 {
				return Config{}, api.ErrGuard
			}
			next.State.Vars[x.Var] = int(v.Int64())
		}
	}
	switch {
	case !fits:
		return Config{}, api.ErrGuard
	case !keepsInvariants(n, next):
		return Config{}, api.ErrInv
	}
	return next, api.OK
}

// wantFirst is First by the words, of a right network.
func wantFirst(n api.Net) (Config, api.Errno) {
	c := Config{State: api.State{Locs: make([]int, len(n.Autos))}}
	for _, v := range n.Vars {
		c.State.Vars = append(c.State.Vars, v.Init)
	}
	for range n.Clocks {
		c.Clocks = append(c.Clocks, api.Rat{Den: 1})
	}
	if !keepsInvariants(n, c) {
		return Config{}, api.ErrInv
	}
	return c, api.OK
}

// wantMeets is Meets by the words, of a right goal.
func wantMeets(n api.Net, c Config, g api.Goal) int {
	return slices.IndexFunc(g, func(p api.Part) bool {
		for _, l := range p.Locs {
			if c.State.Locs[l.Auto] != l.Loc {
				return false
			}
		}
		return areKept(c.Clocks, p.Guards) && isTrue(p.Test, c.State.Vars)
	})
}

// wantAll are the configurations of a run by the words, of a right network, as far as it can be done; the error, and at which step.
func wantAll(n api.Net, r api.Run) ([]Config, api.Errno, int) {
	c, err := wantFirst(n)
	if err != api.OK {
		return nil, err, 0
	}
	l := []Config{c}
	for i := 0; i <= len(r.Steps); i++ {
		d := r.Last
		if i < len(r.Steps) {
			d = r.Steps[i].Delay
		}
		if c, err = wantWait(n, c, d); err != api.OK {
			return l, err, i
		}
		if l = append(l, c); i == len(r.Steps) {
			break
		}
		if c, err = wantDo(n, c, r.Steps[i].Move); err != api.OK {
			return l, err, i
		}
		l = append(l, c)
	}
	return l, api.OK, len(r.Steps)
}

// someGuards mostly hold of a valuation, if there is one.
func someGuards(r *rand.Rand, clocks []api.Rat, top int) []api.Guard {
	var l []api.Guard
	for range r.IntN(3) {
		if len(clocks) == 0 {
			break
		}
		g := api.Guard{Clock: 1 + r.IntN(len(clocks)), Cmp: api.Cmp(1 + r.IntN(5)), N: r.IntN(top + 1)}
		for range 3 {
			if areKept(clocks, []api.Guard{g}) {
				break
			}
			g.Cmp, g.N = api.Cmp(1+r.IntN(5)), r.IntN(top+1)
		}
		l = append(l, g)
	}
	return l
}

func someNumber(r *rand.Rand, vars, depth int) []api.Node {
	switch k := r.IntN(6); {
	case vars > 0 && (k == 0 || depth == 0 && k < 4):
		return []api.Node{{Op: api.Var, N: r.IntN(vars)}}
	case depth == 0 || k == 1:
		return []api.Node{{Op: api.Num, N: []int{0, 1, 1, 2, 3, api.MaxValue}[r.IntN(6)]}}
	case k == 2:
		return append([]api.Node{{Op: api.Neg}}, someNumber(r, vars, depth-1)...)
	default:
		return slices.Concat([]api.Node{{Op: api.Add + api.Op(r.IntN(3))}}, someNumber(r, vars, depth-1), someNumber(r, vars, depth-1))
	}
}

func someTruth(r *rand.Rand, vars, depth int) []api.Node {
	switch k := r.IntN(8); {
	case k == 0 || depth == 0:
		return []api.Node{{Op: api.True}}
	case k == 1:
		return append([]api.Node{{Op: api.Not}}, someTruth(r, vars, depth-1)...)
	case k == 2 || k == 3:
		return slices.Concat([]api.Node{{Op: api.And + api.Op(r.IntN(2))}}, someTruth(r, vars, depth-1), someTruth(r, vars, depth-1))
	default:
		return slices.Concat([]api.Node{{Op: api.Less + api.Op(r.IntN(4))}}, someNumber(r, vars, 2), someNumber(r, vars, 2))
	}
}

// power is a product of five variables: int64 can't hold it, if they are great.
func power(v int) []api.Node {
	return append(slices.Repeat([]api.Node{{Op: api.Mul}}, 4), slices.Repeat([]api.Node{{Op: api.Var, N: v}}, 5)...)
}

func someEdge(r *rand.Rand, n api.Net, locs, top int) api.Edge {
	zeros := slices.Repeat([]api.Rat{{Num: int64(r.IntN(top + 1)), Den: 1}}, len(n.Clocks))
	e := api.Edge{From: r.IntN(locs), To: r.IntN(locs), Guards: someGuards(r, zeros, top), Chan: r.IntN(len(n.Chans) + 1)}
	e.Send = e.Chan > 0 && r.IntN(2) == 0
	vars := len(n.Vars)
	switch k := r.IntN(12); {
	case k < 3:
		e.Test = someTruth(r, vars, 3)
	case k == 3 && vars > 0:
		e.Test = append(append([]api.Node{{Op: api.Less}}, power(r.IntN(vars))...), api.Node{Op: api.Num, N: 9})
	}
	for range r.IntN(4) {
		switch k := r.IntN(12); {
		case k < 6 && len(n.Clocks) > 0:
			e.Sets = append(e.Sets, api.Set{Clock: 1 + r.IntN(len(n.Clocks)), N: r.IntN(top+1) * r.IntN(2)})
		case k == 6 && vars > 0:
			e.Sets = append(e.Sets, api.Set{Var: r.IntN(vars), Expr: power(r.IntN(vars))})
		case vars > 0:
			e.Sets = append(e.Sets, api.Set{Var: r.IntN(vars), Expr: someNumber(r, vars, 1)})
		}
	}
	return e
}

// someNet is a right network whose clocks are held against at most top.
func someNet(r *rand.Rand, top int) api.Net {
	n := api.Net{Clocks: []string{"x", "y", "z"}[:r.IntN(4)], Chans: []string{"c", "d"}[:r.IntN(3)]}
	for _, name := range []string{"n", "m"}[:r.IntN(3)] {
		lo := []int{-api.MaxValue, -4, -1, 0, 0}[r.IntN(5)]
		n.Vars = append(n.Vars, api.Variable{Name: name, Lo: lo, Init: min(1, lo+r.IntN(3)), Hi: []int{1, 2, 5, api.MaxValue}[r.IntN(4)]})
	}
	zeros := slices.Repeat([]api.Rat{{Den: 1}}, len(n.Clocks))
	for _, name := range []string{"A", "B", "C"}[:1+r.IntN(3)] {
		a := api.Auto{Name: name}
		for i := range 1 + r.IntN(3) {
			a.Locs = append(a.Locs, api.Loc{Name: fmt.Sprint("l", i), Kind: api.LocKind(max(0, r.IntN(12)-9))})
			if r.IntN(2) == 0 {
				a.Locs[i].Inv = someGuards(r, zeros, top)
			}
		}
		for range 2 + r.IntN(6) {
			a.Edges = append(a.Edges, someEdge(r, n, len(a.Locs), top))
		}
		n.Autos = append(n.Autos, a)
	}
	return n
}

// someTime is a fraction that is right and not below 0: small, or such as sums of it cannot be held.
func someTime(r *rand.Rand, top int, great bool) api.Rat {
	if great && r.IntN(3) == 0 {
		return []api.Rat{{Num: math.MaxInt64, Den: 1}, {Num: 1, Den: math.MaxInt64}, {Num: math.MaxInt64 - 1, Den: math.MaxInt64}, {Num: math.MaxInt64, Den: 2}, {Num: 1, Den: 1 << 62}, {Num: 1 << 40, Den: 3486784401}}[r.IntN(6)]
	}
	den := int64(1 + r.IntN(4))
	x, _ := held(big.NewRat(r.Int64N(int64(top+2)*den), den))
	return x
}

// someConfig is one of a network, that need not keep its invariants, and mostly does.
func someConfig(r *rand.Rand, n api.Net, top int, great bool) Config {
	var c Config
	for _, a := range n.Autos {
		c.State.Locs = append(c.State.Locs, r.IntN(len(a.Locs)))
	}
	for _, v := range n.Vars {
		k := []int{v.Lo, v.Hi, 0, 1, 2}[r.IntN(5)]
		c.State.Vars = append(c.State.Vars, min(max(k, v.Lo), v.Hi))
	}
	for range 8 {
		c.Clocks = nil
		for range n.Clocks {
			c.Clocks = append(c.Clocks, someTime(r, top, great))
		}
		if keepsInvariants(n, c) {
			break
		}
	}
	return c
}

// someDelay is a delay, some of which are none.
func someDelay(r *rand.Rand, top int, great bool) api.Rat {
	switch r.IntN(14) {
	case 0:
		return []api.Rat{{}, {Num: 1}, {Num: 2, Den: 4}, {Num: 1, Den: -1}, {Num: -1, Den: 1}, {Num: -1, Den: 3}, {Den: 2}, {Num: math.MinInt64, Den: math.MinInt64}}[r.IntN(8)]
	case 1, 2, 3:
		return api.Rat{Den: 1}
	}
	return someTime(r, top, great)
}

// movesOf are all moves of a network.
func movesOf(n api.Net) []api.Move {
	var l []api.Move
	for i, a := range n.Autos {
		for j := range a.Edges {
			l = append(l, api.Move{Auto: i, Edge: j})
			for k, b := range n.Autos {
				for e := range b.Edges {
					l = append(l, api.Move{Auto: i, Edge: j, With: k + 1, Take: e})
				}
			}
		}
	}
	return slices.DeleteFunc(l, func(m api.Move) bool {
		_, ok := sidesOf(n, m)
		return !ok
	})
}

// wild are numbers that a move may have, and that none has.
var wild = []int{math.MinInt, -1 << 32, -2, -1, 0, 1, 2, 3, 4, 5, 255, 256, 1 << 32, math.MaxInt}

// someMove is one that can be done, where there is one; or one of the network, or one with a number changed.
func someMove(r *rand.Rand, n api.Net, c Config) api.Move {
	var m api.Move
	all := movesOf(n)
	fit := slices.DeleteFunc(slices.Clone(all), func(m api.Move) bool {
		_, err := wantDo(n, c, m)
		return err != api.OK
	})
	if len(all) > 0 {
		m = all[r.IntN(len(all))]
	}
	if len(fit) > 0 && r.IntN(6) > 0 {
		m = fit[r.IntN(len(fit))]
	}
	if r.IntN(12) == 0 {
		part := []*int{&m.Auto, &m.Edge, &m.With, &m.Take}[r.IntN(4)]
		*part = []int{*part + 1, *part - 1, 0, r.IntN(6), wild[r.IntN(len(wild))]}[r.IntN(5)]
	}
	return m
}

// someRun is a run of so many steps at most, that mostly can be done.
func someRun(r *rand.Rand, n api.Net, most, top int, great bool) api.Run {
	run := api.Run{Last: someDelay(r, top, great)}
	c, err := wantFirst(n)
	for range r.IntN(most + 1) {
		if err != api.OK {
			break
		}
		s := api.Step{Delay: someDelay(r, top, great)}
		for range 6 {
			if next, no := wantWait(n, c, s.Delay); no == api.OK {
				c = next
				break
			}
			s.Delay = someDelay(r, top, great)
		}
		s.Move = someMove(r, n, c)
		c, err = wantDo(n, c, s.Move)
		run.Steps = append(run.Steps, s)
	}
	return run
}

// someGoal is a right goal of few parts, that hold of a configuration as often as not.
func someGoal(r *rand.Rand, n api.Net, c Config, top int) api.Goal {
	var g api.Goal
	for range r.IntN(4) {
		p := api.Part{Guards: someGuards(r, c.Clocks, top)}
		for i, a := range n.Autos {
			switch r.IntN(9) {
			case 0:
				p.Locs = append(p.Locs, api.At{Auto: i, Loc: r.IntN(len(a.Locs))})
			case 1, 2, 3:
				p.Locs = append(p.Locs, api.At{Auto: i, Loc: c.State.Locs[i]})
			}
		}
		switch k := r.IntN(10); {
		case k < 3:
			p.Test = someTruth(r, len(n.Vars), 3)
		case k == 3 && len(n.Vars) > 0:
			p.Test = append(append([]api.Node{{Op: api.Less}}, power(r.IntN(len(n.Vars)))...), api.Node{Op: api.Num, N: 9})
		}
		g = append(g, p)
	}
	return g
}

// memory is a piece of memory that a list has, its spare room included.
type memory struct{ from, to uintptr }

// memories are those of all lists of a value.
func memories(v reflect.Value) []memory {
	var l []memory
	switch v.Kind() {
	case reflect.Slice:
		if v.Cap() > 0 {
			l = append(l, memory{v.Pointer(), v.Pointer() + uintptr(v.Cap())*v.Type().Elem().Size()})
		}
		for i := range v.Len() {
			l = append(l, memories(v.Index(i))...)
		}
	case reflect.Struct:
		for i := range v.NumField() {
			l = append(l, memories(v.Field(i))...)
		}
	}
	return l
}

// shared tells whether two of the lists of some values lie in one another.
func shared(values ...any) bool {
	var l []memory
	for _, v := range values {
		l = append(l, memories(reflect.ValueOf(v))...)
	}
	slices.SortFunc(l, func(a, b memory) int { return cmp.Compare(a.from, b.from) })
	for i := 1; i < len(l); i++ {
		if l[i].from < l[i-1].to {
			return true
		}
	}
	return false
}
