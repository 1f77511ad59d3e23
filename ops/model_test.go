package ops

import (
	"math/rand/v2"
	"slices"
	"testing"

	"gnomon/api"
	"gnomon/dbm"
)

const (
	most  = api.Bound(2*api.MaxBound + 1) // at most MaxBound: the greatest finite bound
	least = api.Bound(-2 * api.MaxBound)  // less than -MaxBound: the least one
)

// wrong are bounds that may not be.
func wrong() []api.Bound {
	return []api.Bound{-1 << 31, least - 2, least - 1, most + 1, most + 2, api.Inf - 1}
}

func atMost(v int) api.Bound { return api.Bound(2*v + 1) }

func lessThan(v int) api.Bound { return api.Bound(2 * v) }

// must takes what a call answers that has no error.
func must(t *testing.T) func(*dbm.Zone, api.Errno) *dbm.Zone {
	return func(z *dbm.Zone, err api.Errno) *dbm.Zone {
		t.Helper()
		if z == nil || err != api.OK {
			t.Fatal(z.Print(), err)
		}
		return z
	}
}

func parse(t *testing.T, s string) *dbm.Zone {
	t.Helper()
	return must(t)(dbm.Parse(s))
}

func empty(t *testing.T, n int) *dbm.Zone {
	t.Helper()
	return must(t)(dbm.Limits(n, api.Limit{}))
}

// value is a finite bound by the words of DOC.md: 2 v + 1, 2 v.
func value(b api.Bound) (v int64, reached bool) {
	if b%2 != 0 {
		return (int64(b) - 1) / 2, true
	}
	return int64(b) / 2, false
}

// place is a valuation in parts of 1/den, the number 0 first, which is 0.
type place struct {
	den int64
	at  []int64
}

func (p place) keeps(i, j int, b api.Bound) bool {
	if b == api.Inf {
		return true
	}
	v, reached := value(b)
	d := p.at[i] - p.at[j]
	return d < v*p.den || reached && d == v*p.den
}

// in tells whether a valuation is in a zone: whether it keeps all its cells.
func (p place) in(z *dbm.Zone) bool {
	side := len(p.at)
	for at, b := range z.Cells() {
		if !p.keeps(at/side, at%side, b) {
			return false
		}
	}
	return z.Dim() == side-1
}

// set is the valuation but that a clock has a number.
func (p place) set(clock, n int) place {
	q := place{p.den, slices.Clone(p.at)}
	q.at[clock] = int64(n) * p.den
	return q
}

// span is the numbers from lo to hi, in parts of 1/den.
type span struct {
	lo, hi         int64
	loOpen, hiOpen bool
	endless        bool
}

func (s *span) atLeast(v int64, open bool) {
	if v > s.lo || v == s.lo && open {
		s.lo, s.loOpen = v, open
	}
}

func (s *span) atMost(v int64, open bool) {
	if s.endless || v < s.hi || v == s.hi && open {
		s.hi, s.hiOpen, s.endless = v, open, false
	}
}

func (s *span) some() bool {
	return s.endless || s.lo < s.hi || s.lo == s.hi && !s.loOpen && !s.hiOpen
}

// moved tells whether some number u, not below 0, is such that all cells are kept, if u times turn[i] is added to what the number i has. By such a u all words of this chapter with 'some' and 'of v in z' can be told, whatever the zone.
func (p place) moved(z *dbm.Zone, turn []int64) bool {
	s := span{endless: true}
	side := len(p.at)
	for at, b := range z.Cells() {
		if b == api.Inf {
			continue
		}
		i, j := at/side, at%side
		v, reached := value(b)
		room := v*p.den - (p.at[i] - p.at[j])
		switch turn[i] - turn[j] {
		case 1:
			s.atMost(room, !reached)
		case -1:
			s.atLeast(-room, !reached)
		default:
			if room < 0 || room == 0 && !reached {
				return false
			}
		}
	}
	return s.some()
}

// later tells whether time can pass from the zone to the valuation; earlier: from it to the zone.
func (p place) later(z *dbm.Zone) bool {
	return p.moved(z, append([]int64{0}, slices.Repeat([]int64{-1}, len(p.at)-1)...))
}

func (p place) earlier(z *dbm.Zone) bool {
	return p.moved(z, append([]int64{0}, slices.Repeat([]int64{1}, len(p.at)-1)...))
}

// but tells whether a valuation of the zone is this one but for a clock.
func (p place) but(z *dbm.Zone, clock int) bool {
	turn := make([]int64, len(p.at))
	turn[clock] = 1
	return p.set(clock, 0).moved(z, turn)
}

// source makes zones, the same ones each time.
type source struct{ *rand.Rand }

func newSource(seed uint64) source { return source{rand.New(rand.NewPCG(seed, 23))} }

// zone is one of n clocks: of each ten about one is empty, the others have a point in them with numbers up to top.
func (s source) zone(t *testing.T, n, top int) (*dbm.Zone, []int) {
	t.Helper()
	p := make([]int, n+1)
	for i := 1; i <= n; i++ {
		p[i] = s.IntN(top + 1)
	}
	z, err := dbm.Of(n, s.around(p))
	if err == api.ErrBound {
		return s.zone(t, n, top)
	}
	return must(t)(z, err), p
}

// around are cells that a point keeps, but for about one time in ten.
func (s source) around(p []int) []api.Bound {
	side := len(p)
	cells := make([]api.Bound, side*side)
	for at := range cells {
		b := atMost(p[at/side] - p[at%side] + s.IntN(3))
		if s.IntN(3) == 0 {
			b++ // less than one more
		}
		if s.IntN(2) == 0 || b > most || b < least {
			b = api.Inf
		}
		cells[at] = b
	}
	if s.IntN(10) == 0 {
		cells[0] = 0
	}
	return cells
}

// places are valuations to hold a zone against that has the point p in it, if it is not empty: all of a grid, if the clocks are few, else some near to p.
func (s source) places(n, top int, p []int) []place {
	den := int64(n + 1)
	if n <= 2 {
		list := [][]int64{{0}}
		for range n {
			var longer [][]int64
			for _, q := range list {
				for v := range int64(top)*den + 1 {
					longer = append(longer, append(slices.Clone(q), v))
				}
			}
			list = longer
		}
		var out []place
		for _, q := range list {
			out = append(out, place{den, q})
		}
		return out
	}
	var out []place
	for k := range 60 {
		q := place{den, make([]int64, n+1)}
		wide := 1 + k%(3*n)
		for i := 1; i <= n; i++ {
			q.at[i] = max(0, int64(p[i])*den+int64(s.IntN(2*wide+1)-wide))
		}
		out = append(out, q)
	}
	return out
}

// each hands zones of all numbers of clocks to a function, with valuations to hold them against, and checks that it changes none of them.
func each(t *testing.T, many int, check func(s source, z *dbm.Zone, l []place)) {
	t.Helper()
	for n := 0; n <= api.MaxClocks; n++ {
		s := newSource(uint64(n))
		for k := range many {
			top := 1 + k%4
			z, p := s.zone(t, n, top)
			before := z.Print()
			check(s, z, s.places(n, top+3, p))
			if z.Print() != before {
				t.Fatal("changed", before, z.Print())
			}
		}
	}
}
