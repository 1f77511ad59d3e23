package expr

import (
	"strconv"

	"gnomon/api"
)

// text is the words of a tree, and how much they bind.
type text struct {
	words string
	binds int
}

// textOf is the text of a node of a right list, and of its parts.
func textOf(n api.Node, names []string, parts ...text) text {
	o := operatorOf(n.Op)
	return text{wordsOf(n, o, names, parts...), o.binds}
}

func wordsOf(n api.Node, o operator, names []string, parts ...text) string {
	switch n.Op {
	case api.Num:
		return strconv.Itoa(n.N)
	case api.Var:
		return names[n.N]
	case api.True:
		return o.sign
	case api.Neg:
		return o.sign + parts[0].within(bindsNeg)
	case api.Not:
		return o.sign + parts[0].bracketed()
	}
	// What joins from the left needs no brackets on the left. (A comparison is no part of a comparison: so it need not be told from the others.)
	return parts[0].within(o.binds) + o.sign + parts[1].within(o.binds+1)
}

// within is the text where it must bind so much.
func (t text) within(binds int) string {
	if t.binds < binds {
		return t.bracketed()
	}
	return t.words
}

func (t text) bracketed() string { return "(" + t.words + ")" }
