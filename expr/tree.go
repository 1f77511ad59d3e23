package expr

import "gnomon/api"

// kind is what a tree's value is.
type kind uint8

const (
	number kind = 1 + iota
	truth
)

// How much operators bind, the least first.
const (
	bindsOr = 1 + iota
	bindsAnd
	bindsComparison
	bindsSum
	bindsProduct
	bindsNeg
	bindsAll
)

// operator is what there is to know of an Op: how many parts it has, of which kind these are, of which kind it is, its sign, and how much it binds.
type operator struct {
	parts int
	takes kind
	kind  kind
	sign  string
	binds int
}

// operators stand at the numbers of their Ops; at 0, which is none, stands one without a kind.
var operators = [...]operator{
	api.Num:    {kind: number, binds: bindsAll},
	api.Var:    {kind: number, binds: bindsAll},
	api.Neg:    {1, number, number, "-", bindsNeg},
	api.Add:    {2, number, number, " + ", bindsSum},
	api.Sub:    {2, number, number, " - ", bindsSum},
	api.Mul:    {2, number, number, " * ", bindsProduct},
	api.True:   {kind: truth, sign: "true", binds: bindsAll},
	api.Less:   {2, number, truth, " < ", bindsComparison},
	api.AtMost: {2, number, truth, " <= ", bindsComparison},
	api.Equal:  {2, number, truth, " == ", bindsComparison},
	api.Unlike: {2, number, truth, " != ", bindsComparison},
	api.Not:    {1, truth, truth, "!", bindsAll},
	api.And:    {2, truth, truth, " && ", bindsAnd},
	api.Or:     {2, truth, truth, " || ", bindsOr},
}

// operatorOf is one without parts and without a kind, if the Op is none.
func operatorOf(op api.Op) operator {
	if int(op) >= len(operators) {
		return operator{}
	}
	return operators[op]
}

// fold makes one thing of a list of nodes: of each node and of what it made of its parts. False: it is not one whole tree, or something of it can't be made.
//
// It goes from the end on, so that the parts of a node are there ahead of it, the left one last.
func fold[T any](l []api.Node, join func(n api.Node, parts ...T) (T, bool)) (T, bool) {
	var none T
	var made []T
	for i := len(l) - 1; i >= 0; i-- {
		parts := operatorOf(l[i].Op).parts
		if parts > len(made) {
			return none, false
		}
		rest := len(made) - parts
		t, ok := join(l[i], turned(made[rest:])...)
		if !ok {
			return none, false
		}
		made = append(made[:rest], t)
	}
	if len(made) != 1 {
		return none, false
	}
	return made[0], true
}

// turned is a new list, the other way round.
func turned[T any](l []T) []T {
	var out []T
	for i := len(l) - 1; i >= 0; i-- {
		out = append(out, l[i])
	}
	return out
}

// kindOf is the kind of a list; false: it is not right for k variables.
func kindOf(l []api.Node, k int) (kind, bool) {
	if len(l) > api.MaxNodes {
		return 0, false
	}
	return fold(l, func(n api.Node, parts ...kind) (kind, bool) {
		o := operatorOf(n.Op)
		for _, p := range parts {
			if p != o.takes {
				return 0, false
			}
		}
		return o.kind, o.kind != 0 && mayHold(n, k)
	})
}

// mayHold tells whether a node's number is one that may stand there.
func mayHold(n api.Node, k int) bool {
	switch n.Op {
	case api.Num:
		return n.N >= 0 && n.N <= api.MaxValue
	case api.Var:
		return n.N >= 0 && n.N < k
	}
	return n.N == 0
}
