package dbm

import (
	"math/rand/v2"
	"slices"
	"testing"

	"gnomon/api"
)

const (
	most  = api.Bound(2*api.MaxBound + 1) // at most MaxBound: the greatest finite bound
	least = api.Bound(-2 * api.MaxBound)  // less than -MaxBound: the least one
)

// wrong are bounds that may not be.
func wrong() []api.Bound {
	return []api.Bound{-1 << 31, least - 2, least - 1, most + 1, most + 2, api.Inf - 1}
}

func atMost(v int) api.Bound { return api.Bound(2*v + 1) }

func lessThan(v int) api.Bound { return api.Bound(2 * v) }

// weight is a bound of a path: a number, and whether it may be reached.
type weight struct {
	v       int64
	reached bool
	inf     bool
}

// value is a bound by the words of DOC.md: 2 v + 1, 2 v, Inf.
func value(b api.Bound) weight {
	if b == api.Inf {
		return weight{inf: true}
	}
	if b%2 != 0 {
		return weight{v: (int64(b) - 1) / 2, reached: true}
	}
	return weight{v: int64(b) / 2}
}

func (w weight) plus(o weight) weight {
	if w.inf || o.inf {
		return weight{inf: true}
	}
	return weight{v: w.v + o.v, reached: w.reached && o.reached}
}

func (w weight) below(o weight) bool {
	if w.inf || o.inf {
		return !w.inf && o.inf
	}
	return w.v < o.v || w.v == o.v && !w.reached && o.reached
}

func (w weight) mayBe() bool { return w.inf || w.v >= -api.MaxBound && w.v <= api.MaxBound }

func (w weight) bound() api.Bound {
	if w.inf {
		return api.Inf
	}
	if w.reached {
		return api.Bound(2*w.v + 1)
	}
	return api.Bound(2 * w.v)
}

// strictest are the least weights of all paths from a clock, by going round as often as there are clocks (not as the program does it); false: they get less for ever, or it is less than itself.
func strictest(w [][]weight, from int) ([]weight, bool) {
	dist := make([]weight, len(w))
	for i := range dist {
		dist[i].inf = true
	}
	dist[from] = weight{reached: true}
	for range len(w) {
		for i := range w {
			for j := range w {
				if s := dist[i].plus(w[i][j]); s.below(dist[j]) {
					dist[j] = s
				}
			}
		}
	}
	for i := range w {
		for j := range w {
			if dist[i].plus(w[i][j]).below(dist[j]) {
				return nil, false
			}
		}
	}
	return dist, dist[from] == weight{reached: true}
}

// model is what Of must tell: the cells of the zone, or its error.
func model(n int, cells []api.Bound) ([]api.Bound, api.Errno) {
	zero := weight{reached: true}
	w := make([][]weight, n+1)
	for i := range w {
		w[i] = make([]weight, n+1)
		for j := range w[i] {
			w[i][j] = value(cells[i*(n+1)+j])
			if (i == 0 || i == j) && zero.below(w[i][j]) {
				w[i][j] = zero
			}
		}
	}
	var closed []api.Bound
	err := api.OK
	for i := range w {
		row, ok := strictest(w, i)
		if !ok {
			return make([]api.Bound, (n+1)*(n+1)), api.OK
		}
		for _, b := range row {
			if !b.mayBe() {
				err = api.ErrBound
			}
			closed = append(closed, b.bound())
		}
	}
	if err != api.OK {
		return nil, err
	}
	return closed, api.OK
}

// keeps tells whether a point, in parts of 1/den, keeps all cells of a matrix.
func keeps(n int, cells []api.Bound, den int64, p []int64) bool {
	at := func(i int) int64 {
		if i == 0 {
			return 0
		}
		return p[i-1]
	}
	for i := 0; i <= n; i++ {
		for j := 0; j <= n; j++ {
			w := value(cells[i*(n+1)+j])
			d := at(i) - at(j)
			if !w.inf && d > w.v*den || !w.inf && d == w.v*den && !w.reached {
				return false
			}
		}
	}
	return true
}

// points are all valuations of n clocks in parts of 1/(n + 1) up to top. Each order of the parts behind the point that n clocks can have comes up among them.
func points(n, top int) [][]int64 {
	list := [][]int64{nil}
	for range n {
		var longer [][]int64
		for _, p := range list {
			for v := range int64(top*(n+1) + 1) {
				longer = append(longer, append(slices.Clone(p), v))
			}
		}
		list = longer
	}
	return list
}

// source makes rows of bounds, the same ones each time.
type source struct{ *rand.Rand }

func newSource(seed uint64) source { return source{rand.New(rand.NewPCG(seed, 17))} }

// small is a bound with a number from -top to top; of three some one is Inf.
func (s source) small(top int) api.Bound {
	if s.IntN(3) == 0 {
		return api.Inf
	}
	return api.Bound(s.IntN(4*top+2) - 2*top)
}

// great is a bound, often one at the ends of what may be.
func (s source) great() api.Bound {
	switch s.IntN(6) {
	case 0:
		return api.Inf
	case 1:
		return most - api.Bound(s.IntN(4))
	case 2:
		return least + api.Bound(s.IntN(4))
	case 3:
		return api.Bound(s.IntN(1<<29) - 1<<28)
	case 4:
		return api.Bound(s.IntN(1 << 29))
	}
	return s.small(5)
}

// around are cells of n clocks that some point keeps: so the zone is not empty.
func (s source) around(n, top int) []api.Bound {
	p := make([]int, n+1)
	for i := 1; i <= n; i++ {
		p[i] = s.IntN(top + 1)
	}
	var cells []api.Bound
	for i := 0; i <= n; i++ {
		for j := 0; j <= n; j++ {
			b := atMost(p[i] - p[j] + s.IntN(3))
			if s.IntN(3) == 0 {
				b++ // less than one more
			}
			if s.IntN(3) == 0 || b < least || b > most {
				b = api.Inf
			}
			cells = append(cells, b)
		}
	}
	return cells
}

func (s source) cells(n int, next func() api.Bound) []api.Bound {
	cells := make([]api.Bound, (n+1)*(n+1))
	for i := range cells {
		cells[i] = next()
	}
	return cells
}

// zones are zones of n clocks with small bounds, each with the points of 1/(n + 1) that it has, those that are empty among them.
func zones(t *testing.T, n, many, top int) []*Zone {
	t.Helper()
	s := newSource(uint64(n))
	var list []*Zone
	for k := range many {
		cells := s.around(n, top)
		if k%4 == 0 {
			cells = s.cells(n, func() api.Bound { return s.small(top) })
		}
		list = append(list, must(t)(Of(n, cells)))
	}
	return list
}

func must(t *testing.T) func(*Zone, api.Errno) *Zone {
	return func(z *Zone, err api.Errno) *Zone {
		t.Helper()
		if z == nil || err != api.OK {
			t.Fatal(z, err)
		}
		return z
	}
}
