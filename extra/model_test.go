package extra

import (
	"math/rand/v2"
	"slices"
	"testing"

	"gnomon/api"
	"gnomon/dbm"
)

const (
	most  = api.Bound(2*api.MaxBound + 1) // at most MaxBound: the greatest finite bound
	least = api.Bound(-2 * api.MaxBound)  // less than -MaxBound: the least one
)

func atMost(v int) api.Bound { return api.Bound(2*v + 1) }

func lessThan(v int) api.Bound { return api.Bound(2 * v) }

// must takes what a call answers that has no error.
func must(t *testing.T) func(*dbm.Zone, api.Errno) *dbm.Zone {
	return func(z *dbm.Zone, err api.Errno) *dbm.Zone {
		t.Helper()
		if z == nil || err != api.OK {
			t.Fatal(z.Print(), err)
		}
		return z
	}
}

func parse(t *testing.T, s string) *dbm.Zone {
	t.Helper()
	return must(t)(dbm.Parse(s))
}

func empty(t *testing.T, n int) *dbm.Zone {
	t.Helper()
	return must(t)(dbm.Limits(n, api.Limit{}))
}

// value is a finite bound by the words of DOC.md: 2 v + 1, 2 v.
func value(b api.Bound) (v int64, reached bool) {
	if b%2 != 0 {
		return (int64(b) - 1) / 2, true
	}
	return int64(b) / 2, false
}

// without is the zone of those bounds of z that do not name one of the clocks: z is closed, so it says nothing of them, and all of the others that z says.
func without(t *testing.T, z *dbm.Zone, clocks ...int) *dbm.Zone {
	t.Helper()
	if z.Empty() {
		return empty(t, z.Dim())
	}
	var l []api.Limit
	side := z.Dim() + 1
	for at, b := range z.Cells() {
		if !slices.Contains(clocks, at/side) && !slices.Contains(clocks, at%side) {
			l = append(l, api.Limit{I: at / side, J: at % side, Bound: b})
		}
	}
	return must(t)(dbm.Limits(z.Dim(), l...))
}

// widened are the bounds by the words of chapter 5, of a zone that is not empty. They hold numbers against numbers: what is above at most L has a number above L, what is below less than -U has one below -U.
func widened(t *testing.T, z *dbm.Zone, lo, up []int) []api.Bound {
	t.Helper()
	var silent []int
	for i := 1; i <= z.Dim(); i++ {
		if lo[i-1] < 0 && up[i-1] < 0 {
			silent = append(silent, i)
		}
	}
	constant := func(l []int, i int) int64 {
		if i == 0 || l[i-1] < 0 {
			return 0
		}
		return int64(l[i-1])
	}
	cells := without(t, z, silent...).Cells()
	side := z.Dim() + 1
	for at, b := range cells {
		i, j := at/side, at%side
		if i == j || b == api.Inf {
			continue
		}
		v, _ := value(b)
		if i != 0 && v > constant(lo, i) {
			b = api.Inf
		} else if v < -constant(up, j) {
			b = lessThan(int(-constant(up, j)))
		}
		if i == 0 && b > atMost(0) {
			b = atMost(0)
		}
		cells[at] = b
	}
	return cells
}

// place is a valuation in parts of 1/den, the number 0 first, which is 0.
type place struct {
	den int64
	at  []int64
}

func (p place) keeps(i, j int, b api.Bound) bool {
	if b == api.Inf {
		return true
	}
	v, reached := value(b)
	d := p.at[i] - p.at[j]
	return d < v*p.den || reached && d == v*p.den
}

func (p place) keepsAll(cells []api.Bound) bool {
	for at, b := range cells {
		if !p.keeps(at/len(p.at), at%len(p.at), b) {
			return false
		}
	}
	return true
}

// with is the valuation but that a clock has another value.
func (p place) with(clock int, v int64) place {
	q := place{p.den, slices.Clone(p.at)}
	q.at[clock] = v
	return q
}

// source makes zones and constants, the same ones each time.
type source struct{ *rand.Rand }

func newSource(seed uint64) source { return source{rand.New(rand.NewPCG(seed, 31))} }

// constants are n numbers from -1 to top.
func (s source) constants(n, top int) []int {
	l := make([]int, n)
	for i := range l {
		l[i] = s.IntN(top+2) - 1
	}
	return l
}

// zone is one of n clocks: of each twelve about one is empty, the others have a point in them with numbers up to top.
func (s source) zone(t *testing.T, n, top int) (*dbm.Zone, []int) {
	t.Helper()
	p := make([]int, n+1)
	for i := 1; i <= n; i++ {
		p[i] = s.IntN(top + 1)
	}
	cells := make([]api.Bound, (n+1)*(n+1))
	for at := range cells {
		cells[at] = atMost(p[at/(n+1)] - p[at%(n+1)] + s.IntN(3))
		if s.IntN(3) == 0 {
			cells[at]++ // less than one more
		}
		if s.IntN(2) == 0 {
			cells[at] = api.Inf
		}
	}
	if s.IntN(12) == 0 {
		cells[0] = 0
	}
	return must(t)(dbm.Of(n, cells)), p
}

// places are valuations to hold a zone against that has the point p in it: all of a grid, if the clocks are few, else some near to p, and some farther off.
func (s source) places(n, top int, p []int) []place {
	den := int64(n + 1)
	if n > 2 {
		var out []place
		for k := range 60 {
			q := place{den, make([]int64, n+1)}
			wide := 1 + k%(6*n)
			for i := 1; i <= n; i++ {
				q.at[i] = max(0, int64(p[i])*den+int64(s.IntN(2*wide+1)-wide))
			}
			out = append(out, q)
		}
		return out
	}
	out := []place{{den, []int64{0}}}
	for range n {
		var longer []place
		for _, q := range out {
			for v := range int64(top)*den + 1 {
				longer = append(longer, place{den, append(slices.Clone(q.at), v)})
			}
		}
		out = longer
	}
	return out
}

// each hands zones of all numbers of clocks to a function, with a source, and the greatest number of the point in it, and checks that it does not change them.
func each(t *testing.T, many int, check func(s source, z *dbm.Zone, top int, p []int)) {
	t.Helper()
	for n := 0; n <= api.MaxClocks; n++ {
		s := newSource(uint64(n))
		for k := range many {
			top := 1 + k%5
			z, p := s.zone(t, n, top)
			before := z.Print()
			check(s, z, top, p)
			if z.Print() != before {
				t.Fatal("changed", before, z.Print())
			}
		}
	}
}
