package moves

import (
	"iter"

	"gnomon/api"
	"gnomon/net"
)

// half is what one automaton does in a move: its edge, whose it is, and its number there.
type half struct {
	api.Edge
	auto, number int
}

// isHome tells whether the automaton is where the edge begins.
func (h half) isHome(s api.State) bool { return s.Locs[h.auto] == h.From }

// isTaken tells whether another half takes what this one sends.
func (h half) isTaken(o half) bool {
	return h.Send && !o.Send && h.Chan == o.Chan && h.auto != o.auto
}

// halves are those of all edges that are such, in order.
func halves(n api.Net, such func(half) bool) []half {
	var list []half
	for i, a := range n.Autos {
		for j, e := range a.Edges {
			if h := (half{e, i, j}); such(h) {
				list = append(list, h)
			}
		}
	}
	return list
}

// joined yields the moves that halves make, alone or together, in order.
func joined(l []half) iter.Seq[api.Move] {
	return func(yield func(api.Move) bool) {
		for _, h := range l {
			m := api.Move{Auto: h.auto, Edge: h.number}
			if h.Chan == 0 && !yield(m) {
				return
			}
			if !h.Send {
				continue
			}
			for _, o := range l {
				m.With, m.Take = o.auto+1, o.number
				if h.isTaken(o) && !yield(m) {
					return
				}
			}
		}
	}
}

// halfAt is an edge of an automaton; false: there is none.
func halfAt(n api.Net, auto, edge int) (half, bool) {
	if auto < 0 || auto >= len(n.Autos) || edge < 0 || edge >= len(n.Autos[auto].Edges) {
		return half{}, false
	}
	return half{n.Autos[auto].Edges[edge], auto, edge}, true
}

// halvesOf are those of a move, Auto's first; none, if it is no move of the network.
func halvesOf(n api.Net, m api.Move) []half {
	h, ok := halfAt(n, m.Auto, m.Edge)
	if !ok || m.With < 0 {
		return nil
	}
	if m.With == 0 {
		if h.Chan != 0 || m.Take != 0 {
			return nil
		}
		return []half{h}
	}
	o, ok := halfAt(n, m.With-1, m.Take)
	if !ok || !h.isTaken(o) {
		return nil
	}
	return []half{h, o}
}

// rightHalves are those of a move, or the error of the network or of the move.
func rightHalves(n api.Net, m api.Move) ([]half, api.Errno) {
	if !net.Right(n) {
		return nil, api.ErrForm
	}
	l := halvesOf(n, m)
	if len(l) == 0 {
		return nil, api.ErrMove
	}
	return l, api.OK
}
