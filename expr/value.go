package expr

import (
	"math"

	"gnomon/api"
)

// yes is the number of what holds; that of what does not hold is 0.
const yes = 1

// value is the number of a tree, or that int64 can't hold it.
type value struct {
	n    int
	none bool
}

// valueOf is the value of a node of a right list, and of its parts. That of a right part of And and Or may be none without anybody looking at it.
func valueOf(n api.Node, vars []int, parts ...value) value {
	switch n.Op {
	case api.Num:
		return value{n: n.N}
	case api.Var:
		return value{n: vars[n.N]}
	case api.True:
		return value{n: yes}
	}
	left := parts[0]
	switch {
	case left.none:
		return left
	case n.Op == api.And && left.n != yes, n.Op == api.Or && left.n == yes:
		return left
	case n.Op == api.Neg:
		return difference(0, left.n)
	case n.Op == api.Not:
		return value{n: yes - left.n}
	case parts[1].none:
		return parts[1]
	}
	return joined(n.Op, left.n, parts[1].n)
}

// joined is the value of an operator of two. Of And and Or the left part did not tell: so the right one does.
func joined(op api.Op, a, b int) value {
	switch op {
	case api.Add:
		return sum(a, b)
	case api.Sub:
		return difference(a, b)
	case api.Mul:
		return product(a, b)
	case api.Less:
		return answer(a < b)
	case api.AtMost:
		return answer(a <= b)
	case api.Equal:
		return answer(a == b)
	case api.Unlike:
		return answer(a != b)
	}
	return value{n: b}
}

func answer(holds bool) value {
	if holds {
		return value{n: yes}
	}
	return value{}
}

func sum(a, b int) value {
	if b > 0 && a > math.MaxInt-b || b < 0 && a < math.MinInt-b {
		return value{none: true}
	}
	return value{n: a + b}
}

func difference(a, b int) value {
	if b < 0 && a > math.MaxInt+b || b > 0 && a < math.MinInt+b {
		return value{none: true}
	}
	return value{n: a - b}
}

// product divides back to see whether the product went round: only that of -1 and the least number comes back though it did.
func product(a, b int) value {
	if b == 0 {
		return value{}
	}
	p := a * b
	if p/b != a || b == -1 && a == math.MinInt {
		return value{none: true}
	}
	return value{n: p}
}
