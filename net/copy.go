package net

import (
	"slices"

	"gnomon/api"
	"gnomon/expr"
)

// Copy is the same network with lists of its own.
func Copy(n api.Net) api.Net {
	n.Clocks = slices.Clone(n.Clocks)
	n.Vars = slices.Clone(n.Vars)
	n.Chans = slices.Clone(n.Chans)
	n.Autos = each(n.Autos, copyAuto)
	return n
}

func copyAuto(a api.Auto) api.Auto {
	a.Locs = each(a.Locs, copyLoc)
	a.Edges = each(a.Edges, copyEdge)
	return a
}

func copyLoc(l api.Loc) api.Loc {
	l.Inv = slices.Clone(l.Inv)
	return l
}

func copyEdge(e api.Edge) api.Edge {
	e.Guards = slices.Clone(e.Guards)
	e.Test = slices.Clone(e.Test)
	e.Sets = each(e.Sets, copySet)
	return e
}

func copySet(s api.Set) api.Set {
	s.Expr = slices.Clone(s.Expr)
	return s
}

// CopyGoal is the same goal with lists of its own.
func CopyGoal(g api.Goal) api.Goal { return each(g, copyPart) }

func copyPart(p api.Part) api.Part {
	p.Locs = slices.Clone(p.Locs)
	p.Guards = slices.Clone(p.Guards)
	p.Test = slices.Clone(p.Test)
	return p
}

// Same tells whether two networks are the same.
func Same(a, b api.Net) bool {
	return slices.Equal(a.Clocks, b.Clocks) && slices.Equal(a.Vars, b.Vars) && slices.Equal(a.Chans, b.Chans) &&
		slices.EqualFunc(a.Autos, b.Autos, sameAuto)
}

func sameAuto(a, b api.Auto) bool {
	return a.Name == b.Name && slices.EqualFunc(a.Locs, b.Locs, sameLoc) && slices.EqualFunc(a.Edges, b.Edges, sameEdge)
}

func sameLoc(a, b api.Loc) bool {
	return a.Name == b.Name && a.Kind == b.Kind && slices.Equal(a.Inv, b.Inv)
}

func sameEdge(a, b api.Edge) bool {
	return a.From == b.From && a.To == b.To && a.Chan == b.Chan && a.Send == b.Send &&
		slices.Equal(a.Guards, b.Guards) && expr.Same(a.Test, b.Test) && slices.EqualFunc(a.Sets, b.Sets, sameSet)
}

func sameSet(a, b api.Set) bool {
	return a.Clock == b.Clock && a.N == b.N && a.Var == b.Var && expr.Same(a.Expr, b.Expr)
}

// SameGoal tells whether two goals are the same.
func SameGoal(a, b api.Goal) bool { return slices.EqualFunc(a, b, samePart) }

func samePart(a, b api.Part) bool {
	return slices.Equal(a.Locs, b.Locs) && slices.Equal(a.Guards, b.Guards) && expr.Same(a.Test, b.Test)
}
