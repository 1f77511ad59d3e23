package trace

import (
	"math/rand/v2"
	"slices"
	"strings"
	"testing"

	"gnomon/api"
	"gnomon/moves"
	"gnomon/search"
	"gnomon/state"
)

// eachWay hands ways that are open, of networks at random, to a function.
func eachWay(seed uint64, many, most int, try func(r *rand.Rand, n api.Net, way []api.Move)) {
	r := source(seed)
	for k := range many {
		n := someNet(r, k%5, 4)
		try(r, n, someWay(r, n, most))
	}
}

// TestP18_4Cut: the zones of a way that is cut are the first ones of it; behind an empty zone all are empty.
func TestP18_4Cut(t *testing.T) {
	empties := 0
	eachWay(2, 400, 8, func(r *rand.Rand, n api.Net, way []api.Move) {
		l, err := Zones(n, way...)
		if err != api.OK || len(l) != len(way)+1 {
			t.Fatal(err)
		}
		for k := range way {
			isZones(t, texts(l[:k+1])...)(Zones(n, way[:k]...))
			if l[k].Empty() {
				empties++
				if !l[k+1].Empty() {
					t.Fatal(n, way, texts(l))
				}
			}
		}
	})
	if empties < 100 {
		t.Error(empties)
	}
}

// TestP18_5Runs (E1): a way's last zone is not empty just if some run has these moves; it has just the valuations that such runs leave.
func TestP18_5Runs(t *testing.T) {
	counts := map[bool]int{}
	in := map[bool]int{}
	eachWay(3, 500, 7, func(r *rand.Rand, n api.Net, way []api.Move) {
		l, err := Zones(n, way...)
		if err != api.OK {
			t.Fatal(err)
		}
		z := l[len(way)]
		can := canRun(n, way, nil)
		if z.Empty() == can {
			t.Fatal(n, way, texts(l))
		}
		counts[can]++
		for k := range 30 {
			p := place{int64(2 + k%2), make([]int64, len(n.Clocks)+1)}
			for c := 1; c < len(p.at); c++ {
				p.at[c] = int64(r.IntN(6 * int(p.den)))
			}
			// Near to those of the zone, where there are some.
			if c := 1 + r.IntN(len(p.at)); c < len(p.at) && k%3 > 0 {
				for o := 1; o < len(p.at); o++ {
					if b, _ := z.Cell(o, c); b != api.Inf {
						p.at[o] = max(0, p.at[c]+p.den*int64(b>>1))
					}
				}
			}
			is := canRun(n, way, &p)
			if p.in(z) != is {
				t.Fatal(n, way, z.Print(), p, is)
			}
			in[is]++
		}
	})
	if counts[true] < 150 || counts[false] < 50 || in[true] < 500 || in[false] < 500 {
		t.Error(counts, in)
	}
}

// eachNode hands searches of networks at random, that have gone on for a while, to a function.
func eachNode(t *testing.T, seed uint64, many int, try func(n api.Net, g api.Goal, s *search.Search)) {
	t.Helper()
	r := source(seed)
	for k := range many {
		n := someNet(r, k%4, 4)
		g := someGoal(r, n, 6)
		for _, last := range []bool{false, true} {
			s, err := search.New(n, g, api.Plan{}, last)
			if err != api.OK {
				t.Fatal(n, g, err)
			}
			s.Go(60)
			try(n, g, s)
		}
	}
}

// TestP18_6Found (E4): of a search that has found its goal the way to that node is open, and Meets tells the part that it was found with.
func TestP18_6Found(t *testing.T) {
	parts, longest := map[int]int{}, 0
	eachNode(t, 4, 500, func(n api.Net, g api.Goal, s *search.Search) {
		found, part := s.Found()
		if found < 0 {
			return
		}
		nodes := s.Nodes()
		way, err := Of(nodes, found)
		if err != api.OK {
			t.Fatal(err)
		}
		states, err := States(n, way...)
		if err != api.OK || !state.Same(states[len(way)], nodes[found].State) {
			t.Fatal(n, way, err)
		}
		isPart(t, part, api.OK)(Meets(n, g, way...))
		parts[part]++
		longest = max(longest, len(way))
	})
	if parts[0] < 100 || parts[1] < 20 || longest < 3 {
		t.Error(parts, longest)
	}
}

// TestP18_7Includes: each node's zone of a search includes the last zone of its way, which is not empty; also of nodes that are Gone.
func TestP18_7Includes(t *testing.T) {
	wider, gone := 0, 0
	eachNode(t, 5, 300, func(n api.Net, g api.Goal, s *search.Search) {
		nodes := s.Nodes()
		for i, d := range nodes {
			way, err := Of(nodes, i)
			if err != api.OK {
				t.Fatal(err)
			}
			l, err := Zones(n, way...)
			if err != api.OK || !d.Zone.Includes(l[len(way)]) || l[len(way)].Empty() {
				t.Fatal(n, way, texts(l), d.Zone.Print(), err)
			}
			if !d.Zone.Equal(l[len(way)]) {
				wider++
			}
			if d.Gone {
				gone++
			}
		}
	})
	if wider < 100 || gone < 50 {
		t.Error(wider, gone)
	}
}

// TestP18_8Back (E8): Parse of Print is the way; Print of what Parse takes is what was read.
func TestP18_8Back(t *testing.T) {
	r := source(6)
	for k := range 500 {
		n := someNet(r, k%3, 4)
		var way []api.Move
		if l := moves.All(n); len(l) > 0 {
			for range r.IntN(12) {
				way = append(way, l[r.IntN(len(l))])
			}
		}
		text, err := Print(n, way...)
		if err != api.OK || strings.Count(text, "\n") != len(way) {
			t.Fatal(text, err)
		}
		isRead(t, way, api.OK, 0)(Parse(n, text))
		// A text that is another one in one place is another way's, or none.
		for range 8 {
			other := []byte(text)
			if len(other) == 0 {
				break
			}
			other[r.IntN(len(other))] = "ABC.0123 ,\n"[r.IntN(11)]
			l, err, line := Parse(n, string(other))
			if err == api.OK {
				isText(t, string(other), api.OK)(Print(n, l...))
			} else if err != api.ErrMove || line < 1 || line > len(way)+1 {
				t.Fatal(string(other), err, line)
			}
			if string(other) != text && slices.Equal(l, way) {
				t.Fatal(string(other), text)
			}
		}
	}
}
