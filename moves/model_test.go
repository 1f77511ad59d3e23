package moves

import (
	"cmp"
	"fmt"
	"math"
	"math/big"
	"math/rand/v2"
	"reflect"
	"slices"
	"strings"
	"testing"

	"gnomon/api"
	"gnomon/net"
	"gnomon/parse"
)

// said is the network that a text says.
func said(t testing.TB, s string) api.Net {
	t.Helper()
	n, err, at := parse.Net(s)
	if err != api.OK {
		t.Fatal(s, err, at)
	}
	return n
}

// rich has something of everything, and names that begin alike.
const rich = `clock x, y; int n in 0 .. 3 := 0; int m in -9 .. 9 := 2; chan c, d;
	auto A {
		loc a inv x <= 5; loc b; loc k committed;
		edge a -> b when x >= 3 && y < 2 && n < 3 sync c! do x := 1, n := n + 1, y := 2, m := m + n;
		edge a -> k when n == 0 do m := 0 - m, x := 7;
		edge a -> a sync c?;
		edge b -> a sync d!;
	}
	auto AA {
		loc a; loc k committed; loc u urgent;
		edge a -> k when y > 4 && m > 0 sync c? do m := m * 2, x := 3, x := 0;
		edge k -> a;
		edge a -> u sync c!;
		edge u -> a sync d? do n := 0;
	}
	auto B { loc a; loc b; edge a -> b sync c?; edge b -> a; }`

// wrongNets are networks that are not right, each by another one of the errors of net.Whole.
func wrongNets(t testing.TB) []api.Net {
	l := []api.Net{{}, {Clocks: []string{"x"}}}
	for _, change := range []func(n *api.Net){
		func(n *api.Net) { n.Autos[1].Locs = nil },
		func(n *api.Net) { n.Clocks = slices.Repeat(n.Clocks, 5) },
		func(n *api.Net) { n.Autos[0].Name = "n" },
		func(n *api.Net) { n.Autos[0].Locs[1].Name = "a" },
		func(n *api.Net) { n.Vars[0].Init = 4 },
		func(n *api.Net) { n.Autos[0].Locs[2].Kind = 3 },
		func(n *api.Net) { n.Autos[0].Edges[0].To = 3 },
		func(n *api.Net) { n.Autos[0].Edges[1].Send = true },
		func(n *api.Net) { n.Autos[0].Edges[0].Chan = 3 },
		func(n *api.Net) { n.Autos[0].Locs[0].Inv[0].Clock = 3 },
		func(n *api.Net) { n.Autos[0].Edges[0].Guards[0].Cmp = 0 },
		func(n *api.Net) { n.Autos[0].Edges[0].Test = n.Autos[0].Edges[0].Test[1:] },
		func(n *api.Net) { n.Autos[0].Edges[0].Sets[1].Var = 2 },
	} {
		n := said(t, rich)
		change(&n)
		if net.Right(n) {
			t.Fatal("right", n)
		}
		l = append(l, n)
	}
	return l
}

// edgeAt is an edge and where it stands.
type edgeAt struct {
	auto, edge int
	api.Edge
}

// wantAll gathers the moves channel by channel, and sorts them then.
func wantAll(n api.Net) []api.Move {
	sends, takes := map[int][]edgeAt{}, map[int][]edgeAt{}
	var l []api.Move
	for i, a := range n.Autos {
		for j, e := range a.Edges {
			switch {
			case e.Chan == 0:
				l = append(l, api.Move{Auto: i, Edge: j})
			case e.Send:
				sends[e.Chan] = append(sends[e.Chan], edgeAt{i, j, e})
			default:
				takes[e.Chan] = append(takes[e.Chan], edgeAt{i, j, e})
			}
		}
	}
	for c := range n.Chans {
		for _, o := range takes[c+1] {
			for _, h := range sends[c+1] {
				if o.auto != h.auto {
					l = append(l, api.Move{Auto: h.auto, Edge: h.edge, With: 1 + o.auto, Take: o.edge})
				}
			}
		}
	}
	slices.SortFunc(l, func(a, b api.Move) int {
		return cmp.Or(a.Auto-b.Auto, a.Edge-b.Edge, a.With-b.With, a.Take-b.Take)
	})
	return l
}

// worth is the value of a tree, of a truth 1 or 0; false: int64 can't hold one that is looked at. And the nodes behind the tree.
func worth(l []api.Node, vars []int) (*big.Int, bool, []api.Node) {
	head, rest := l[0], l[1:]
	switch head.Op {
	case api.Num:
		return big.NewInt(int64(head.N)), true, rest
	case api.Var:
		return big.NewInt(int64(vars[head.N])), true, rest
	case api.True:
		return big.NewInt(1), true, rest
	}
	a, some, rest := worth(rest, vars)
	if head.Op == api.Neg {
		v := new(big.Int).Neg(a)
		return v, some && v.IsInt64(), rest
	}
	if head.Op == api.Not {
		return new(big.Int).Sub(big.NewInt(1), a), some, rest
	}
	b, other, rest := worth(rest, vars)
	c := a.Cmp(b)
	v := new(big.Int)
	truth := func(is bool) *big.Int { return big.NewInt(map[bool]int64{true: 1}[is]) }
	switch head.Op {
	case api.Add:
		v.Add(a, b)
	case api.Sub:
		v.Sub(a, b)
	case api.Mul:
		v.Mul(a, b)
	case api.And:
		return truth(a.Sign() > 0 && b.Sign() > 0), some && (a.Sign() == 0 || other), rest
	case api.Or:
		return truth(a.Sign() > 0 || b.Sign() > 0), some && (a.Sign() > 0 || other), rest
	default:
		v = truth(map[api.Op]bool{api.Less: c < 0, api.AtMost: c <= 0, api.Equal: c == 0, api.Unlike: c != 0}[head.Op])
	}
	return v, some && other && v.IsInt64(), rest
}

// ends are the edges of a move.
func ends(n api.Net, m api.Move) []edgeAt {
	l := []edgeAt{{m.Auto, m.Edge, n.Autos[m.Auto].Edges[m.Edge]}}
	if m.With > 0 {
		l = append(l, edgeAt{m.With - 1, m.Take, n.Autos[m.With-1].Edges[m.Take]})
	}
	return l
}

// wantAfter is the state behind a move, or its error, by the words of the document.
func wantAfter(n api.Net, s api.State, m api.Move) (api.State, api.Errno) {
	if !slices.Contains(wantAll(n), m) {
		return api.State{}, api.ErrMove
	}
	committed, moved := 0, 0
	for i, a := range n.Autos {
		if a.Locs[s.Locs[i]].Kind == api.Committed {
			committed++
			if i == m.Auto || i == m.With-1 {
				moved++
			}
		}
	}
	next := api.State{Locs: slices.Clone(s.Locs), Vars: slices.Clone(s.Vars)}
	held := true
	for _, e := range ends(n, m) {
		if s.Locs[e.auto] != e.From {
			return api.State{}, api.ErrMove
		}
		if len(e.Test) > 0 {
			v, some, _ := worth(e.Test, s.Vars)
			held = held && some && v.Sign() > 0
		}
		next.Locs[e.auto] = e.To
	}
	if committed > 0 && moved == 0 {
		return api.State{}, api.ErrMove
	}
	for _, e := range ends(n, m) {
		for _, set := range e.Sets {
			if set.Clock > 0 {
				continue
			}
			v, some, _ := worth(set.Expr, next.Vars)
			x := n.Vars[set.Var]
			if !some || v.Cmp(big.NewInt(int64(x.Lo))) < 0 || v.Cmp(big.NewInt(int64(x.Hi))) > 0 {
				held = false
				break
			}
			next.Vars[set.Var] = int(v.Int64())
		}
	}
	if !held {
		return api.State{}, api.ErrGuard
	}
	return next, api.OK
}

func wantText(n api.Net, l ...api.Move) string {
	var texts []string
	for _, m := range l {
		text := fmt.Sprintf("%s.%d", n.Autos[m.Auto].Name, m.Edge)
		if m.With > 0 {
			text += fmt.Sprintf(" %s.%d", n.Autos[m.With-1].Name, m.Take)
		}
		texts = append(texts, text)
	}
	return strings.Join(texts, ", ")
}

// alike tells whether two states are the same, an empty list as nil.
func alike(a, b api.State) bool { return fmt.Sprint(a) == fmt.Sprint(b) }

func someGuards(r *rand.Rand, clocks int) []api.Guard {
	var l []api.Guard
	for range r.IntN(3) {
		if clocks > 0 {
			l = append(l, api.Guard{Clock: 1 + r.IntN(clocks), Other: r.IntN(clocks + 1), Cmp: api.Cmp(1 + r.IntN(5)), N: r.IntN(12) - 3})
		}
	}
	return l
}

func someNumber(r *rand.Rand, vars, depth int) []api.Node {
	switch k := r.IntN(6); {
	case vars > 0 && (k == 0 || depth == 0 && k < 4):
		return []api.Node{{Op: api.Var, N: r.IntN(vars)}}
	case depth == 0 || k == 1:
		return []api.Node{{Op: api.Num, N: []int{0, 1, 1, 2, 3, api.MaxValue}[r.IntN(6)]}}
	case k == 2:
		return append([]api.Node{{Op: api.Neg}}, someNumber(r, vars, depth-1)...)
	default:
		return slices.Concat([]api.Node{{Op: api.Add + api.Op(r.IntN(3))}}, someNumber(r, vars, depth-1), someNumber(r, vars, depth-1))
	}
}

func someTruth(r *rand.Rand, vars, depth int) []api.Node {
	switch k := r.IntN(8); {
	case k == 0 || depth == 0:
		return []api.Node{{Op: api.True}}
	case k == 1:
		return append([]api.Node{{Op: api.Not}}, someTruth(r, vars, depth-1)...)
	case k == 2 || k == 3:
		return slices.Concat([]api.Node{{Op: api.And + api.Op(r.IntN(2))}}, someTruth(r, vars, depth-1), someTruth(r, vars, depth-1))
	default:
		return slices.Concat([]api.Node{{Op: api.Less + api.Op(r.IntN(4))}}, someNumber(r, vars, 2), someNumber(r, vars, 2))
	}
}

// power is a product of five variables: int64 can't hold it, if they are great.
func power(v int) []api.Node {
	return append(slices.Repeat([]api.Node{{Op: api.Mul}}, 4), slices.Repeat([]api.Node{{Op: api.Var, N: v}}, 5)...)
}

func someEdge(r *rand.Rand, n api.Net, locs int) api.Edge {
	e := api.Edge{From: r.IntN(locs), To: r.IntN(locs), Guards: someGuards(r, len(n.Clocks)), Chan: r.IntN(len(n.Chans) + 1)}
	e.Send = e.Chan > 0 && r.IntN(2) == 0
	vars := len(n.Vars)
	if r.IntN(3) == 0 {
		e.Test = someTruth(r, vars, 3)
	}
	if vars > 0 && r.IntN(12) == 0 {
		e.Test = append(append([]api.Node{{Op: api.Less}}, power(r.IntN(vars))...), api.Node{Op: api.Num, N: 9})
	}
	for range r.IntN(4) {
		switch k := r.IntN(6); {
		case k < 2 && len(n.Clocks) > 0:
			e.Sets = append(e.Sets, api.Set{Clock: 1 + r.IntN(len(n.Clocks)), N: r.IntN(9) - 2})
		case k == 2 && vars > 0:
			e.Sets = append(e.Sets, api.Set{Var: r.IntN(vars), Expr: power(r.IntN(vars))})
		case vars > 0:
			e.Sets = append(e.Sets, api.Set{Var: r.IntN(vars), Expr: someNumber(r, vars, 2)})
		}
	}
	return e
}

func someNet(r *rand.Rand) api.Net {
	n := api.Net{Clocks: []string{"x", "y"}[:r.IntN(3)], Chans: []string{"c", "d"}[:r.IntN(3)]}
	for _, name := range []string{"n", "A2", "m"}[:r.IntN(4)] {
		lo := []int{-api.MaxValue, -4, -1, 0, 1}[r.IntN(5)]
		n.Vars = append(n.Vars, api.Variable{Name: name, Lo: lo, Init: lo, Hi: []int{1, 2, 5, api.MaxValue}[r.IntN(4)]})
	}
	for _, name := range []string{"A", "AA", "A1", "B"}[:1+r.IntN(4)] {
		a := api.Auto{Name: name}
		for i := range 1 + r.IntN(2) {
			a.Locs = append(a.Locs, api.Loc{Name: fmt.Sprint("l", i), Kind: api.LocKind(max(0, r.IntN(7)-4))})
		}
		for range r.IntN(6) {
			a.Edges = append(a.Edges, someEdge(r, n, len(a.Locs)))
		}
		n.Autos = append(n.Autos, a)
	}
	return n
}

// someState is a state of a network, with values at the ends of what may be, or near 0.
func someState(r *rand.Rand, n api.Net) api.State {
	var s api.State
	for _, a := range n.Autos {
		s.Locs = append(s.Locs, r.IntN(len(a.Locs)))
	}
	for _, v := range n.Vars {
		k := []int{v.Lo, v.Hi, 0, 1, 2}[r.IntN(5)]
		s.Vars = append(s.Vars, min(max(k, v.Lo), v.Hi))
	}
	return s
}

// wild are numbers that a move may have, and that none has.
var wild = []int{math.MinInt, math.MinInt + 1, -1 << 32, -256, -2, -1, 0, 1, 2, 3, 4, 5, 6, 255, 256, 1 << 32, 1<<32 + 1, math.MaxInt}

// someMove is one of the network, or one with a number changed, or anything.
func someMove(r *rand.Rand, n api.Net) api.Move {
	var m api.Move
	if l := wantAll(n); len(l) > 0 {
		m = l[r.IntN(len(l))]
	}
	for range r.IntN(3) {
		part := []*int{&m.Auto, &m.Edge, &m.With, &m.Take}[r.IntN(4)]
		*part = []int{*part + 1, *part - 1, 0, r.IntN(6), wild[r.IntN(len(wild))]}[r.IntN(5)]
	}
	return m
}

// offText is a text with a byte put in, left out or changed.
func offText(r *rand.Rand, s, signs string) string {
	sign := signs[r.IntN(len(signs))]
	at := r.IntN(len(s) + 1)
	switch k := r.IntN(3); {
	case k == 0 || at == len(s):
		return s[:at] + string([]byte{sign}) + s[at:]
	case k == 1:
		return s[:at] + s[at+1:]
	}
	return s[:at] + string([]byte{sign}) + s[at+1:]
}

// memory is a piece of memory that a list has, its spare room included.
type memory struct{ from, to uintptr }

// memories are those of all lists of a value.
func memories(v reflect.Value) []memory {
	var l []memory
	switch v.Kind() {
	case reflect.Slice:
		if v.Cap() > 0 {
			l = append(l, memory{v.Pointer(), v.Pointer() + uintptr(v.Cap())*v.Type().Elem().Size()})
		}
		for i := range v.Len() {
			l = append(l, memories(v.Index(i))...)
		}
	case reflect.Struct:
		for i := range v.NumField() {
			l = append(l, memories(v.Field(i))...)
		}
	}
	return l
}

// shared tells whether two of the lists of some values lie in one another.
func shared(values ...any) bool {
	var l []memory
	for _, v := range values {
		l = append(l, memories(reflect.ValueOf(v))...)
	}
	slices.SortFunc(l, func(a, b memory) int { return cmp.Compare(a.from, b.from) })
	for i := 1; i < len(l); i++ {
		if l[i].from < l[i-1].to {
			return true
		}
	}
	return false
}
