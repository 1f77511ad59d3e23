package expr

import (
	"math/big"
	"math/rand/v2"
	"slices"
	"strconv"

	"gnomon/api"
)

func node(op api.Op) api.Node { return api.Node{Op: op} }

func num(n int) api.Node { return api.Node{Op: api.Num, N: n} }

func variable(n int) api.Node { return api.Node{Op: api.Var, N: n} }

// of is a list of nodes: of Ops, numbers, and lists of nodes.
func of(l ...any) []api.Node {
	var out []api.Node
	for _, x := range l {
		switch x := x.(type) {
		case api.Op:
			out = append(out, node(x))
		case int:
			out = append(out, num(x))
		case api.Node:
			out = append(out, x)
		case []api.Node:
			out = append(out, x...)
		}
	}
	return out
}

func numbers() []api.Op { return []api.Op{api.Num, api.Var, api.Neg, api.Add, api.Sub, api.Mul} }

func truths() []api.Op {
	return []api.Op{api.True, api.Less, api.AtMost, api.Equal, api.Unlike, api.Not, api.And, api.Or}
}

func comparisons() []api.Op { return []api.Op{api.Less, api.AtMost, api.Equal, api.Unlike} }

// noOps are Ops that are none.
func noOps() []api.Op { return []api.Op{0, 15, 16, 17, 100, 127, 128, 254, 255} }

// partsOf is how many parts an Op has, by the words of the chapter.
func partsOf(op api.Op) int {
	switch {
	case op == api.Neg || op == api.Not:
		return 1
	case op == api.Num || op == api.Var || op == api.True || op < api.Num || op > api.Or:
		return 0
	}
	return 2
}

// tree is an expression as a tree.
type tree struct {
	api.Node
	parts []*tree
}

// grown is the tree at the beginning of a list, and what stands behind it; nil: it is not whole.
func grown(l []api.Node) (*tree, []api.Node) {
	if len(l) == 0 {
		return nil, nil
	}
	t := &tree{Node: l[0]}
	l = l[1:]
	for range partsOf(t.Op) {
		var p *tree
		if p, l = grown(l); p == nil {
			return nil, nil
		}
		t.parts = append(t.parts, p)
	}
	return t, l
}

func (t *tree) list() []api.Node {
	l := []api.Node{t.Node}
	for _, p := range t.parts {
		l = append(l, p.list()...)
	}
	return l
}

func (t *tree) isNumber() bool { return slices.Contains(numbers(), t.Op) }

// right tells whether a tree may be, but for how many nodes it has.
func (t *tree) right(k int) bool {
	switch {
	case t.Op < api.Num || t.Op > api.Or,
		t.Op == api.Num && (t.N < 0 || t.N > api.MaxValue),
		t.Op == api.Var && (t.N < 0 || t.N >= k),
		t.Op != api.Num && t.Op != api.Var && t.N != 0:
		return false
	}
	logic := t.Op == api.Not || t.Op == api.And || t.Op == api.Or
	for _, p := range t.parts {
		if p.isNumber() == logic || !p.right(k) {
			return false
		}
	}
	return true
}

// rightTree is the tree of a list; nil: it is not right for k variables.
func rightTree(l []api.Node, k int) *tree {
	t, rest := grown(l)
	if t == nil || len(rest) > 0 || len(l) > api.MaxNodes || !t.right(k) {
		return nil
	}
	return t
}

// number is the value of a right tree; nil: it has none.
func (t *tree) number(vars []int) *big.Int {
	var l []*big.Int
	for _, p := range t.parts {
		v := p.number(vars)
		if v == nil {
			return nil
		}
		l = append(l, v)
	}
	v := new(big.Int)
	switch t.Op {
	case api.Num:
		v.SetInt64(int64(t.N))
	case api.Var:
		v.SetInt64(int64(vars[t.N]))
	case api.Neg:
		v.Neg(l[0])
	case api.Add:
		v.Add(l[0], l[1])
	case api.Sub:
		v.Sub(l[0], l[1])
	case api.Mul:
		v.Mul(l[0], l[1])
	}
	if !v.IsInt64() {
		return nil
	}
	return v
}

// holds tells whether a right tree holds, and whether a value that is looked at is none.
func (t *tree) holds(vars []int) (yes, over bool) {
	switch t.Op {
	case api.True:
		return true, false
	case api.Not:
		yes, over = t.parts[0].holds(vars)
		return !yes && !over, over
	case api.And, api.Or:
		yes, over = t.parts[0].holds(vars)
		if over || yes == (t.Op == api.Or) {
			return yes, over
		}
		return t.parts[1].holds(vars)
	}
	a, b := t.parts[0].number(vars), t.parts[1].number(vars)
	if a == nil || b == nil {
		return false, true
	}
	c := a.Cmp(b)
	return map[api.Op]bool{api.Less: c < 0, api.AtMost: c <= 0, api.Equal: c == 0, api.Unlike: c != 0}[t.Op], false
}

// rank is how much a tree binds.
func (t *tree) rank() int {
	for at, ops := range [][]api.Op{{api.Or}, {api.And}, comparisons(), {api.Add, api.Sub}, {api.Mul}, {api.Neg}} {
		if slices.Contains(ops, t.Op) {
			return at
		}
	}
	return 6
}

// words is the text of a right tree.
func (t *tree) words(names []string) string {
	part := func(at int, brackets bool) string {
		s := t.parts[at].words(names)
		if brackets {
			return "(" + s + ")"
		}
		return s
	}
	switch t.Op {
	case api.Num:
		return strconv.Itoa(t.N)
	case api.Var:
		return names[t.N]
	case api.True:
		return "true"
	case api.Neg:
		return "-" + part(0, t.parts[0].rank() < t.rank())
	case api.Not:
		return "!" + part(0, true)
	}
	comparison := slices.Contains(comparisons(), t.Op)
	left := t.parts[0].rank() < t.rank() || comparison && t.parts[0].rank() == t.rank()
	sign := map[api.Op]string{api.Add: "+", api.Sub: "-", api.Mul: "*", api.Less: "<", api.AtMost: "<=", api.Equal: "==", api.Unlike: "!=", api.And: "&&", api.Or: "||"}[t.Op]
	return part(0, left) + " " + sign + " " + part(1, t.parts[1].rank() <= t.rank())
}

// source makes trees, the same ones each time.
type source struct{ *rand.Rand }

func newSource(seed uint64) source { return source{rand.New(rand.NewPCG(seed, 83))} }

// tree is a right one of just so many nodes, a number or a truth, over k variables (at least one).
func (s source) tree(isNumber bool, nodes, k int, top int) *tree {
	pick := func(l ...api.Op) *tree { return &tree{Node: node(l[s.IntN(len(l))])} }
	var t *tree
	switch {
	case nodes <= 1 && isNumber:
		t = pick(api.Num, api.Var)
		if t.Op == api.Num {
			t.N = s.IntN(top + 1)
		} else {
			t.N = s.IntN(k)
		}
		return t
	case nodes <= 1:
		return pick(api.True)
	case isNumber && nodes == 2:
		t = pick(api.Neg)
	case isNumber:
		t = pick(api.Neg, api.Add, api.Sub, api.Mul)
	case nodes == 2:
		t = pick(api.Not)
	default:
		t = pick(api.Not, api.And, api.Or, api.Less, api.AtMost, api.Equal, api.Unlike)
	}
	isNumber = isNumber || slices.Contains(comparisons(), t.Op)
	nodes--
	if partsOf(t.Op) == 1 {
		t.parts = []*tree{s.tree(isNumber, nodes, k, top)}
		return t
	}
	left := 1 + s.IntN(nodes-1)
	t.parts = []*tree{s.tree(isNumber, left, k, top), s.tree(isNumber, nodes-left, k, top)}
	return t
}

// lists hands each list of at most so many nodes of an alphabet to a function.
func lists(alphabet []api.Node, most int, check func(l []api.Node)) {
	var longer func(l []api.Node)
	longer = func(l []api.Node) {
		check(l)
		if len(l) == most {
			return
		}
		for _, n := range alphabet {
			longer(append(l[:len(l):len(l)], n))
		}
	}
	longer(nil)
}
