package net

import (
	"iter"
	"slices"

	"gnomon/api"
)

// each is what a function makes of each element.
func each[T, U any](l []T, of func(T) U) []U {
	var out []U
	for _, x := range l {
		out = append(out, of(x))
	}
	return out
}

// some tells whether one of those that are yielded is such.
func some[T any](l iter.Seq[T], such func(T) bool) bool {
	for x := range l {
		if such(x) {
			return true
		}
	}
	return false
}

// yieldAll yields a list, and tells whether more is asked for.
func yieldAll[T any](l []T, yield func(T) bool) bool {
	for _, x := range l {
		if !yield(x) {
			return false
		}
	}
	return true
}

// inner yields the elements of the lists inside of those of another one.
func inner[T, U any](outer iter.Seq[T], of func(T) []U) iter.Seq[U] {
	return func(yield func(U) bool) {
		for x := range outer {
			if !yieldAll(of(x), yield) {
				return
			}
		}
	}
}

func autoNames(n api.Net) []string {
	return each(n.Autos, func(a api.Auto) string { return a.Name })
}

func locNames(a api.Auto) []string {
	return each(a.Locs, func(l api.Loc) string { return l.Name })
}

func locs(n api.Net) iter.Seq[api.Loc] {
	return inner(slices.Values(n.Autos), func(a api.Auto) []api.Loc { return a.Locs })
}

func edges(n api.Net) iter.Seq[api.Edge] {
	return inner(slices.Values(n.Autos), func(a api.Auto) []api.Edge { return a.Edges })
}

func sets(n api.Net) iter.Seq[api.Set] {
	return inner(edges(n), func(e api.Edge) []api.Set { return e.Sets })
}

// guards yields the guards of all invariants, and of all edges.
func guards(n api.Net) iter.Seq[api.Guard] {
	return func(yield func(api.Guard) bool) {
		for l := range locs(n) {
			if !yieldAll(l.Inv, yield) {
				return
			}
		}
		for e := range edges(n) {
			if !yieldAll(e.Guards, yield) {
				return
			}
		}
	}
}

func ats(g api.Goal) iter.Seq[api.At] {
	return inner(slices.Values(g), func(p api.Part) []api.At { return p.Locs })
}

func goalGuards(g api.Goal) iter.Seq[api.Guard] {
	return inner(slices.Values(g), func(p api.Part) []api.Guard { return p.Guards })
}
