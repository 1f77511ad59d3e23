package region

import (
	"iter"
	"slices"

	"gnomon/api"
	"gnomon/check"
	"gnomon/state"
)

// graph is a region graph, as far as it was come to.
type graph struct {
	limits
	world
	kept map[string]int // the nodes' numbers, by their bytes
	full bool           // a node was passed over
}

// graphOf is that of a right network and a goal that is right for it.
func graphOf(n api.Net, g api.Goal) *graph {
	// No error: such are the numbers of a right network and goal.
	l, _ := limitsOf(check.Max(n, g))
	return &graph{limits: l, world: worldOf(n, g), kept: map[string]int{}}
}

// node is a state with a region.
type node struct {
	*place
	Region
}

// bytes are those that no other node has: no Whole is above MaxConst and 1, no rank above MaxClocks.
func (d node) bytes() []byte {
	b := slices.Clone(d.key)
	for i, whole := range d.Whole {
		b = append(b, byte(whole>>16), byte(whole>>8), byte(whole), byte(d.Rank[i]))
	}
	return b
}

// isGoal tells whether a part of the goal holds.
func (d node) isGoal() bool {
	return slices.ContainsFunc(d.aims, func(guards []api.Guard) bool { return d.keeps(guards...) })
}

// value is a region of a network as a value that can be compared.
type value struct {
	whole, rank [api.MaxClocks]int
}

func (r Region) value() value {
	var v value
	copy(v.whole[:], r.Whole)
	copy(v.rank[:], r.Rank)
	return v
}

// nodes are all that can be come to, row by row: those of the next row are behind those of this one. What is behind a node is come to only if another one is asked for.
func (w *graph) nodes() iter.Seq[node] {
	return func(yield func(node) bool) {
		for row := w.beginning(); len(row) > 0; {
			var next []node
			for _, d := range row {
				if !yield(d) {
					return
				}
				next = w.keep(next, w.behind(d))
			}
			row = next
		}
	}
}

// beginning is the first row.
func (w *graph) beginning() []node {
	// No error: the network is right.
	s, _ := state.First(w.net)
	zero := Region{Whole: make([]int, len(w.limits)), Rank: make([]int, len(w.limits))}
	return w.keep(nil, slices.Values([]node{{w.at(s), zero}}))
}

// behind are the nodes to which time or a move leads, whether their invariants hold or not.
func (w *graph) behind(d node) iter.Seq[node] {
	return func(yield func(node) bool) {
		later := w.later(d.Region)
		if d.stays && later.value() != d.value() && !yield(node{d.place, later}) {
			return
		}
		for _, s := range w.stepsFrom(d.place) {
			if d.keeps(s.guards...) && !yield(node{s.to, w.set(d.Region, s.sets...)}) {
				return
			}
		}
	}
}

// keep puts nodes behind a row, as far as their invariants hold, they were not come to ahead, and there is room.
func (w *graph) keep(row []node, l iter.Seq[node]) []node {
	for d := range l {
		if !d.keeps(d.invariants...) {
			continue
		}
		key := string(d.bytes())
		if _, known := w.kept[key]; known {
			continue
		}
		if len(w.kept) == api.MaxRegions {
			w.full = true
			continue
		}
		w.kept[key] = len(w.kept)
		row = append(row, d)
	}
	return row
}
