package net

import (
	"slices"

	"gnomon/api"
	"gnomon/expr"
	"gnomon/lex"
)

// step is one thing that is looked for: its error, and whether it is there.
type step struct {
	err   api.Errno
	found func() bool
}

// firstError is the error of the first step that finds something. What is behind it isn't looked for: it may lean on what is ahead of it.
func firstError(steps ...step) api.Errno {
	for _, s := range steps {
		if s.found() {
			return s.err
		}
	}
	return api.OK
}

// netSteps are what is looked for in a network.
func netSteps(n api.Net) []step {
	vars := len(n.Vars)
	return []step{
		{api.ErrRange, func() bool { return len(n.Autos) == 0 || slices.ContainsFunc(n.Autos, hasNoLoc) }},
		{api.ErrLong, func() bool { return isLong(n) }},
		{api.ErrName, func() bool { return hasWrongName(n) }},
		{api.ErrVar, func() bool { return slices.ContainsFunc(n.Vars, isWrongVar) }},
		{api.ErrLoc, func() bool { return some(locs(n), hasNoKind) }},
		{api.ErrEdge, func() bool { return hasWrongEdge(n) }},
		{api.ErrClock, func() bool {
			return some(guards(n), func(g api.Guard) bool { return isOutside(n, g) }) ||
				some(sets(n), func(s api.Set) bool { return !isFrom(0, s.Clock, len(n.Clocks)) })
		}},
		{api.ErrForm, func() bool { return some(guards(n), hasNoCmp) || some(sets(n), isWrongForm) }},
		{api.ErrTest, func() bool {
			return some(edges(n), func(e api.Edge) bool { return isWrongTest(e.Test, vars) }) ||
				some(sets(n), func(s api.Set) bool { return isWrongValue(s, vars) })
		}},
	}
}

// goalSteps are what is looked for in a goal of a whole network.
func goalSteps(n api.Net, g api.Goal) []step {
	return []step{
		{api.ErrLong, func() bool { return len(g) > api.MaxGoal || slices.ContainsFunc(g, isLongPart) }},
		{api.ErrLoc, func() bool { return some(ats(g), func(at api.At) bool { return isNowhere(n, at) }) }},
		{api.ErrClock, func() bool { return some(goalGuards(g), func(x api.Guard) bool { return isOutside(n, x) }) }},
		{api.ErrForm, func() bool { return some(goalGuards(g), hasNoCmp) }},
		{api.ErrTest, func() bool {
			return slices.ContainsFunc(g, func(p api.Part) bool { return isWrongTest(p.Test, len(n.Vars)) })
		}},
	}
}

// isFrom tells whether a number is from one to another one.
func isFrom(least, x, greatest int) bool { return least <= x && x <= greatest }

func hasNoLoc(a api.Auto) bool { return len(a.Locs) == 0 }

func hasNoKind(l api.Loc) bool { return l.Kind > api.Committed }

func hasNoCmp(g api.Guard) bool { return g.Cmp < api.Lt || g.Cmp > api.Gt }

// isOutside tells whether a guard speaks of a clock that is none.
func isOutside(n api.Net, g api.Guard) bool {
	return !isFrom(1, g.Clock, len(n.Clocks)) || !isFrom(0, g.Other, len(n.Clocks))
}

func isLong(n api.Net) bool {
	if len(n.Clocks) > api.MaxClocks || len(n.Vars) > api.MaxVars || len(n.Chans) > api.MaxChans || len(n.Autos) > api.MaxParts {
		return true
	}
	return slices.ContainsFunc(n.Autos, func(a api.Auto) bool { return len(a.Locs) > api.MaxLocs || len(a.Edges) > api.MaxEdges }) ||
		some(locs(n), func(l api.Loc) bool { return len(l.Inv) > api.MaxGuards }) ||
		some(edges(n), func(e api.Edge) bool { return isLongCond(e.Guards, e.Test) || len(e.Sets) > api.MaxSets }) ||
		some(sets(n), func(s api.Set) bool { return len(s.Expr) > api.MaxNodes })
}

func isLongCond(l []api.Guard, test []api.Node) bool {
	return len(l) > api.MaxGuards || len(test) > api.MaxNodes
}

func isLongPart(p api.Part) bool {
	return len(p.Locs) > api.MaxGoal || isLongCond(p.Guards, p.Test)
}

func hasWrongName(n api.Net) bool {
	return areWrongNames(slices.Concat(n.Clocks, Names(n), n.Chans, autoNames(n))) ||
		slices.ContainsFunc(n.Autos, func(a api.Auto) bool { return areWrongNames(locNames(a)) })
}

// areWrongNames tells whether one of the names may not be given, or two are alike.
func areWrongNames(l []string) bool {
	for i, name := range l {
		if !lex.IsName(name) || slices.Contains(l[:i], name) {
			return true
		}
	}
	return false
}

func isWrongVar(v api.Variable) bool {
	return !isFrom(v.Lo, v.Init, v.Hi) || v.Lo < -api.MaxValue || v.Hi > api.MaxValue
}

func hasWrongEdge(n api.Net) bool {
	for _, a := range n.Autos {
		last := len(a.Locs) - 1
		for _, e := range a.Edges {
			if !isFrom(0, e.From, last) || !isFrom(0, e.To, last) || !isFrom(0, e.Chan, len(n.Chans)) || e.Send && e.Chan == 0 {
				return true
			}
		}
	}
	return false
}

// isWrongForm tells whether a set has something that those of its kind have not.
func isWrongForm(s api.Set) bool {
	if s.Clock == 0 {
		return s.N != 0
	}
	return s.Var != 0 || len(s.Expr) > 0
}

func isWrongTest(l []api.Node, vars int) bool {
	return len(l) > 0 && (expr.Right(l, vars) != api.OK || !expr.IsTruth(l))
}

func isWrongValue(s api.Set, vars int) bool {
	return s.Clock == 0 && (!isFrom(0, s.Var, vars-1) || expr.Right(s.Expr, vars) != api.OK || expr.IsTruth(s.Expr))
}

func isNowhere(n api.Net, at api.At) bool {
	return !isFrom(0, at.Auto, len(n.Autos)-1) || !isFrom(0, at.Loc, len(n.Autos[at.Auto].Locs)-1)
}
