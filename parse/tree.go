package parse

import "gnomon/api"

// tree is a node and its parts. Lists of nodes are made of trees that are small enough alone: a text may say ones that are thousands deep.
type tree struct {
	node  api.Node
	parts []*tree
	size  int
}

func leaf(op api.Op, n int) *tree { return &tree{node: api.Node{Op: op, N: n}, size: 1} }

func join(op api.Op, parts ...*tree) *tree {
	t := &tree{node: api.Node{Op: op}, parts: parts, size: 1}
	for _, p := range parts {
		t.size += p.size
	}
	return t
}

// list is the nodes of a tree in preorder; none, if there is no tree.
func (t *tree) list() []api.Node {
	if t == nil {
		return nil
	}
	l := []api.Node{t.node}
	for _, p := range t.parts {
		l = append(l, p.list()...)
	}
	return l
}

// relation is a sign between two things: what it says of a clock and a number (0: nothing), what it makes of two sums, and whether these change places.
type relation struct {
	sign    string
	cmp     api.Cmp
	op      api.Op
	changed bool
}

var relations = [...]relation{
	{"<", api.Lt, api.Less, false},
	{"<=", api.Le, api.AtMost, false},
	{"==", api.Eq, api.Equal, false},
	{">=", api.Ge, api.AtMost, true},
	{">", api.Gt, api.Less, true},
	{"!=", 0, api.Unlike, false},
}

// relationOf is the relation with a sign; one without an op, if there is none.
func relationOf(sign string) relation {
	for _, r := range relations {
		if r.sign == sign {
			return r
		}
	}
	return relation{}
}

// joiner is the Op that a sign makes of what stands on both sides of it; 0, if it makes none.
func joiner(sign string) api.Op {
	switch sign {
	case "+":
		return api.Add
	case "-":
		return api.Sub
	case "*":
		return api.Mul
	case "&&":
		return api.And
	case "||":
		return api.Or
	}
	return 0
}

// goesOn tells whether a sum goes on with a sign, or a comparison of it.
func goesOn(sign string) bool {
	switch joiner(sign) {
	case api.Add, api.Sub, api.Mul:
		return true
	}
	return relationOf(sign).op != 0
}
