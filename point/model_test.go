package point

import (
	"math"
	"math/big"
	"math/rand/v2"
	"slices"
	"testing"

	"gnomon/api"
	"gnomon/dbm"
)

const (
	most  = api.Bound(2*api.MaxBound + 1) // at most MaxBound: the greatest finite bound
	least = api.Bound(-2 * api.MaxBound)  // less than -MaxBound: the least one
	top   = math.MaxInt64
)

func atMost(v int) api.Bound { return api.Bound(2*v + 1) }

func lessThan(v int) api.Bound { return api.Bound(2 * v) }

func f(num, den int64) api.Rat { return api.Rat{Num: num, Den: den} }

// whole is a valuation of whole numbers.
func whole(l ...int64) []api.Rat {
	var v []api.Rat
	for _, n := range l {
		v = append(v, f(n, 1))
	}
	return v
}

// wrong are fractions that no clock has: such as are not right, and such as are below 0.
func wrong() []api.Rat {
	return []api.Rat{{}, f(1, 0), f(0, 2), f(2, 4), f(1, -1), f(0, -1), f(top, top), f(math.MinInt64, math.MinInt64), f(1, math.MinInt64), f(-1, 1), f(-1, 2), f(-1, top), f(math.MinInt64, 1), f(math.MinInt64, top)}
}

// wrongOnes are valuations that are not right: one fraction that is not, at each place, and too many of them.
func wrongOnes() [][]api.Rat {
	list := [][]api.Rat{whole(0, 0, 0, 0, 0, 0, 0, 0, 0), make([]api.Rat, 9), slices.Repeat(whole(1), 1000)}
	for n := 1; n <= api.MaxClocks; n++ {
		for at := range n {
			for _, r := range wrong() {
				v := slices.Repeat(whole(1), n)
				v[at] = r
				list = append(list, v)
			}
		}
	}
	return list
}

// must takes what a call answers that has no error.
func must(t *testing.T) func(*dbm.Zone, api.Errno) *dbm.Zone {
	return func(z *dbm.Zone, err api.Errno) *dbm.Zone {
		t.Helper()
		if z == nil || err != api.OK {
			t.Fatal(z.Print(), err)
		}
		return z
	}
}

func limited(t *testing.T, n int, l ...api.Limit) *dbm.Zone {
	t.Helper()
	return must(t)(dbm.Limits(n, l...))
}

func empty(t *testing.T, n int) *dbm.Zone {
	t.Helper()
	return limited(t, n, api.Limit{})
}

// exact is a right fraction as a number.
func exact(r api.Rat) *big.Rat { return big.NewRat(r.Num, r.Den) }

// exactly is what each number has in a right valuation, that of 0 first.
func exactly(v []api.Rat) []*big.Rat {
	l := []*big.Rat{new(big.Rat)}
	for _, r := range v {
		l = append(l, exact(r))
	}
	return l
}

// held is a number as a fraction, if it can be held.
func held(x *big.Rat) (api.Rat, bool) {
	if !x.Num().IsInt64() || !x.Denom().IsInt64() {
		return api.Rat{}, false
	}
	return f(x.Num().Int64(), x.Denom().Int64()), true
}

func sum(a, b *big.Rat) *big.Rat { return new(big.Rat).Add(a, b) }

func less(a, b *big.Rat) *big.Rat { return new(big.Rat).Sub(a, b) }

// value is a finite bound by the words of DOC.md: 2 v + 1, 2 v.
func value(b api.Bound) (v *big.Rat, reached bool) {
	if b%2 != 0 {
		return big.NewRat((int64(b)-1)/2, 1), true
	}
	return big.NewRat(int64(b)/2, 1), false
}

// obeys tells whether a number keeps a bound.
func obeys(x *big.Rat, b api.Bound) bool {
	if b == api.Inf {
		return true
	}
	v, reached := value(b)
	c := x.Cmp(v)
	return c < 0 || c == 0 && reached
}

// firstBroken is the first cell that numbers do not keep.
func firstBroken(z *dbm.Zone, at []*big.Rat) (api.Limit, bool) {
	side := z.Dim() + 1
	for k, b := range z.Cells() {
		if i, j := k/side, k%side; !obeys(less(at[i], at[j]), b) {
			return api.Limit{I: i, J: j, Bound: b}, true
		}
	}
	return api.Limit{}, false
}

// behind tells whether a valuation, behind a delay that need not be one that can be held, is in a zone.
func behind(z *dbm.Zone, v []api.Rat, d *big.Rat) bool {
	at := exactly(v)
	for i := 1; i < len(at); i++ {
		at[i] = sum(at[i], d)
	}
	_, broken := firstBroken(z, at)
	return !broken
}

// source makes zones and valuations, the same ones each time.
type source struct{ *rand.Rand }

func newSource(seed uint64) source { return source{rand.New(rand.NewPCG(seed, 41))} }

// zone is one of n clocks: of each twelve about one is empty, the others have a point in them with numbers up to top.
func (s source) zone(t *testing.T, n, top int) (*dbm.Zone, []int) {
	t.Helper()
	p := make([]int, n+1)
	for i := 1; i <= n; i++ {
		p[i] = s.IntN(top + 1)
	}
	cells := make([]api.Bound, (n+1)*(n+1))
	loose := 2 + s.IntN(3)
	for at := range cells {
		cells[at] = atMost(p[at/(n+1)] - p[at%(n+1)] + s.IntN(3))
		if s.IntN(2) == 0 {
			cells[at]++ // less than one more
		}
		if s.IntN(loose) > 0 {
			cells[at] = api.Inf
		}
	}
	if s.IntN(12) == 0 {
		cells[0] = 0
	}
	return must(t)(dbm.Of(n, cells)), p
}

// near are valuations near to a point, in parts of one of some sizes.
func (s source) near(n, many int, p []int) [][]api.Rat {
	var list [][]api.Rat
	for k := range many {
		den := int64(1 + s.IntN(2*n+2))
		wide := int(den) * (1 + k%3)
		v := make([]api.Rat, 0, n)
		for i := 1; i <= n; i++ {
			x, _ := held(big.NewRat(max(0, int64(p[i])*den+int64(s.IntN(2*wide+1)-wide)), den))
			v = append(v, x)
		}
		list = append(list, v)
	}
	return list
}

// great are fractions at the ends of what can be held, and near to the ends of bounds.
func great() []api.Rat {
	const b = api.MaxBound
	return []api.Rat{
		f(0, 1), f(1, 1), f(top, 1), f(top-1, 1), f(1, top), f(2, top), f(1, top-1), f(top, top-1), f(top-1, top), f(top, 2), f(top-2, 2),
		f(b, 1), f(b-1, 1), f(b+1, 1), f(2*b+1, 2), f(2*b-1, 2), f(1<<62+1, 1<<34), f(1<<62-1, 1<<34), f(1, 1<<62), f(top, 1<<34), f(top, 1<<35), f(top, 1<<36), f(top-b, 1), f(top-b-1, 1), f(top-2*b, 1),
	}
}

// each hands zones of all numbers of clocks to a function, with valuations to hold them against, and checks that it changes none of them.
func each(t *testing.T, many int, check func(s source, z *dbm.Zone, l [][]api.Rat)) {
	t.Helper()
	for n := 0; n <= api.MaxClocks; n++ {
		s := newSource(uint64(n))
		for k := range many {
			z, p := s.zone(t, n, 1+k%4)
			before := z.Print()
			check(s, z, s.near(n, 20, p))
			if z.Print() != before {
				t.Fatal("changed", before, z.Print())
			}
		}
	}
}

// greatZones are zones of two clocks with bounds at the ends of what may be, and small ones.
func greatZones(t *testing.T) []*dbm.Zone {
	t.Helper()
	s := newSource(77)
	pick := func() api.Bound {
		return []api.Bound{api.Inf, api.Inf, most, most - 1, least, least + 1, 0, 1, 2, 3, -1, -2}[s.IntN(12)]
	}
	list := []*dbm.Zone{must(t)(dbm.Universe(2)), must(t)(dbm.Zero(2)), empty(t, 2)}
	for len(list) < 150 {
		var l []api.Limit
		for i := range 3 {
			for j := range 3 {
				if i != j {
					l = append(l, api.Limit{I: i, J: j, Bound: pick()})
				}
			}
		}
		if z, err := dbm.Limits(2, l...); err == api.OK && (!z.Empty() || len(list) < 10) {
			list = append(list, z)
		}
	}
	return list
}
