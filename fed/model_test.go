package fed

import (
	"math/rand/v2"
	"slices"
	"strings"
	"testing"

	"gnomon/api"
	"gnomon/bound"
	"gnomon/dbm"
)

const (
	most  = api.Bound(2*api.MaxBound + 1) // at most MaxBound: the greatest finite bound
	least = api.Bound(-2 * api.MaxBound)  // less than -MaxBound: the least one
)

func atMost(v int) api.Bound { return api.Bound(2*v + 1) }

func lessThan(v int) api.Bound { return api.Bound(2 * v) }

// must takes what a call answers that has no error.
func must[T any](t *testing.T) func(*T, api.Errno) *T {
	return func(z *T, err api.Errno) *T {
		t.Helper()
		if z == nil || err != api.OK {
			t.Fatal(z, err)
		}
		return z
	}
}

// parse reads a zone from bounds that need not be closed.
func parse(t *testing.T, s string) *dbm.Zone {
	t.Helper()
	var l []api.Limit
	for _, w := range strings.Fields(s[2:]) {
		b, err := bound.Parse(w[5:])
		if err != api.OK {
			t.Fatal(s, err)
		}
		l = append(l, api.Limit{I: int(w[1] - '0'), J: int(w[4] - '0'), Bound: b})
	}
	return must[dbm.Zone](t)(dbm.Limits(int(s[0]-'0'), l...))
}

func parseAll(t *testing.T, l ...string) []*dbm.Zone {
	t.Helper()
	var out []*dbm.Zone
	for _, s := range l {
		out = append(out, must[dbm.Zone](t)(dbm.Parse(s)))
	}
	return out
}

func empty(t *testing.T, n int) *dbm.Zone {
	t.Helper()
	return must[dbm.Zone](t)(dbm.Limits(n, api.Limit{}))
}

func universe(t *testing.T, n int) *dbm.Zone {
	t.Helper()
	return must[dbm.Zone](t)(dbm.Universe(n))
}

func union(t *testing.T, n int, l ...*dbm.Zone) *Fed {
	t.Helper()
	return must[Fed](t)(New(n, l...))
}

// texts are the zones of a union.
func texts(f *Fed) []string {
	var out []string
	for _, z := range f.Zones() {
		out = append(out, z.Print())
	}
	return out
}

// gap is a bound of a difference, by the words of DOC.md: of a number, that may be reached or not, or none.
type gap struct {
	v         int64
	open, inf bool
}

func gapOf(b api.Bound) gap {
	switch {
	case b == api.Inf:
		return gap{inf: true}
	case b%2 != 0:
		return gap{v: (int64(b) - 1) / 2}
	}
	return gap{v: int64(b) / 2, open: true}
}

func (g gap) below(o gap) bool {
	if g.inf || o.inf {
		return !g.inf
	}
	return g.v < o.v || g.v == o.v && g.open && !o.open
}

func (g gap) plus(o gap) gap {
	return gap{v: g.v + o.v, open: g.open || o.open, inf: g.inf || o.inf}
}

func (g gap) not() gap { return gap{v: -g.v, open: !g.open} }

func (g gap) mayBe() bool { return g.inf || g.v >= -api.MaxBound && g.v <= api.MaxBound }

func (g gap) bound() api.Bound {
	switch {
	case g.inf:
		return api.Inf
	case g.open:
		return api.Bound(2 * g.v)
	}
	return api.Bound(2*g.v + 1)
}

// table is a zone as gaps.
type table [][]gap

func tableOf(z *dbm.Zone) table {
	side := z.Dim() + 1
	g := make(table, side)
	for at, b := range z.Cells() {
		g[at/side] = append(g[at/side], gapOf(b))
	}
	return g
}

// with is the closed table with one more gap; false: nothing keeps it.
func (g table) with(i, j int, b gap) (table, bool) {
	var c table
	for _, r := range g {
		c = append(c, slices.Clone(r))
	}
	if b.below(c[i][j]) {
		c[i][j] = b
	}
	for k := range c {
		for i := range c {
			for j := range c {
				if s := c[i][k].plus(c[k][j]); !c[i][k].inf && !c[k][j].inf && s.below(c[i][j]) {
					c[i][j] = s
				}
			}
		}
		if c[k][k].below(gap{}) {
			return nil, false
		}
	}
	for k := range c {
		if c[k][k].below(gap{}) {
			return nil, false
		}
	}
	return c, true
}

func (g table) mayBe() bool {
	for _, r := range g {
		if slices.ContainsFunc(r, func(b gap) bool { return !b.mayBe() }) {
			return false
		}
	}
	return true
}

func (g table) text() string {
	var cells []api.Bound
	for _, r := range g {
		for _, b := range r {
			cells = append(cells, b.bound())
		}
	}
	z, _ := dbm.Of(len(g)-1, cells)
	return z.Print()
}

// common is what two zones have in common; false: nothing.
func common(z, y *dbm.Zone) (table, bool) {
	g := tableOf(z)
	ok := !z.Empty() && !y.Empty()
	for i, r := range tableOf(y) {
		for j, b := range r {
			if ok {
				g, ok = g.with(i, j, b)
			}
		}
	}
	return g, ok
}

// without is what is left of zones without one, by the words of the chapter, or the first error that comes up on the way.
func without(l []*dbm.Zone, y *dbm.Zone) ([]string, api.Errno) {
	var out []string
	for _, z := range l {
		if _, some := common(z, y); !some {
			if out = append(out, z.Print()); len(out) > api.MaxFed {
				return nil, api.ErrFull
			}
			continue
		}
		g := tableOf(z)
		for i, r := range tableOf(y) {
			for j, b := range r {
				if i == j || !b.below(g[i][j]) {
					continue
				}
				if part, some := g.with(j, i, b.not()); some {
					if !part.mayBe() {
						return nil, api.ErrBound
					}
					if out = append(out, part.text()); len(out) > api.MaxFed {
						return nil, api.ErrFull
					}
				}
				if g, _ = g.with(i, j, b); !g.mayBe() {
					return nil, api.ErrBound
				}
			}
		}
	}
	return out, api.OK
}

// place is a valuation in parts of 1/den, the number 0 first, which is 0.
type place struct {
	den int64
	at  []int64
}

// in tells whether a valuation is in a zone: whether it keeps all its cells.
func (p place) in(z *dbm.Zone) bool {
	for i, r := range tableOf(z) {
		for j, b := range r {
			d := p.at[i] - p.at[j]
			if !b.inf && (d > b.v*p.den || d == b.v*p.den && b.open) {
				return false
			}
		}
	}
	return z.Dim() == len(p.at)-1
}

func (p place) inOne(l []*dbm.Zone) bool { return slices.ContainsFunc(l, p.in) }

// valuation is the place as fractions in lowest terms.
func (p place) valuation() []api.Rat {
	var v []api.Rat
	for _, n := range p.at[1:] {
		a, b := n, p.den
		for b != 0 {
			a, b = b, a%b
		}
		v = append(v, api.Rat{Num: n / a, Den: p.den / a})
	}
	return v
}

// grid is all valuations of n clocks with numbers up to top, in parts of 1/(n+1): each zone of whole numbers that are small beside top has one of them, if it is not empty.
func grid(n, top int) []place {
	den := int64(n + 1)
	list := [][]int64{{0}}
	for range n {
		var longer [][]int64
		for _, q := range list {
			for v := range int64(top)*den + 1 {
				longer = append(longer, append(slices.Clone(q), v))
			}
		}
		list = longer
	}
	var out []place
	for _, q := range list {
		out = append(out, place{den, q})
	}
	return out
}

// source makes zones, the same ones each time.
type source struct{ *rand.Rand }

func newSource(seed uint64) source { return source{rand.New(rand.NewPCG(seed, 59))} }

// zone is one of n clocks, not empty, with a point in it with numbers up to top.
func (s source) zone(t *testing.T, n, top int) *dbm.Zone {
	t.Helper()
	p := make([]int, n+1)
	for i := 1; i <= n; i++ {
		p[i] = s.IntN(top + 1)
	}
	cells := make([]api.Bound, (n+1)*(n+1))
	loose := 2 + s.IntN(3)
	for at := range cells {
		cells[at] = atMost(p[at/(n+1)] - p[at%(n+1)] + s.IntN(3))
		if s.IntN(2) == 0 {
			cells[at]++ // less than one more
		}
		if s.IntN(loose) > 0 {
			cells[at] = api.Inf
		}
	}
	return must[dbm.Zone](t)(dbm.Of(n, cells))
}

func (s source) zones(t *testing.T, n, many, top int) []*dbm.Zone {
	t.Helper()
	var l []*dbm.Zone
	for range many {
		l = append(l, s.zone(t, n, top))
	}
	return l
}

// great is a zone with bounds at the ends of what may be, and small ones.
func (s source) great(n int) *dbm.Zone {
	picks := []api.Bound{most, most - 1, most - 2, least, least + 1, 0, 1, 2, 3, -1, -2, atMost(api.MaxBound / 2), atMost(-api.MaxBound / 2)}
	for {
		var l []api.Limit
		for i := range n + 1 {
			for j := range n + 1 {
				if i != j && s.IntN(n+1) == 0 {
					l = append(l, api.Limit{I: i, J: j, Bound: picks[s.IntN(len(picks))]})
				}
			}
		}
		if z, err := dbm.Limits(n, l...); err == api.OK && !z.Empty() {
			return z
		}
	}
}

// near are valuations of n clocks with small numbers.
func (s source) near(n, many, top int) []place {
	var out []place
	for range many {
		p := place{int64(1 + s.IntN(n+2)), make([]int64, n+1)}
		for i := 1; i <= n; i++ {
			p.at[i] = int64(s.IntN(top*int(p.den) + 1))
		}
		out = append(out, p)
	}
	return out
}

// points of one clock, each a zone, from 0 on.
func points(t *testing.T, many int) []*dbm.Zone {
	t.Helper()
	var l []*dbm.Zone
	for k := range many {
		l = append(l, must[dbm.Zone](t)(dbm.Limits(1, api.Limit{I: 1, Bound: atMost(k)}, api.Limit{J: 1, Bound: atMost(-k)})))
	}
	return l
}
