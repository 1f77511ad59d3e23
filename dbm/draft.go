package dbm

import "gnomon/api"

// open is no bound, in a draft. It is not Inf, as a sum of finite bounds may have the number of Inf.
const open int64 = 1 << 62

// The numbers of the finite bounds that may be.
const (
	leastFinite int64 = -2 * api.MaxBound
	mostFinite  int64 = 2*api.MaxBound + 1
)

// draft is a matrix that is not closed yet. Its bounds have 64 bits, as sums on the way may pass what a zone's cells may be, and yet come to nothing if it is empty.
type draft struct {
	frame
	rows [mostSide][mostSide]int64
}

// draftOf begins with all valuations, which are nowhere below 0.
func draftOf(n int) *draft {
	d := &draft{frame: frame{n}}
	for i := 0; i <= n; i++ {
		for j := 0; j <= n; j++ {
			if i != 0 && i != j {
				d.rows[i][j] = open
			} else {
				d.rows[i][j] = int64(atMostZero)
			}
		}
	}
	return d
}

func (d *draft) tighten(i, j int, b api.Bound) {
	if b != api.Inf {
		d.rows[i][j] = min(d.rows[i][j], int64(b))
	}
}

func (d *draft) tightenAll(m *matrix) {
	for at, b := range m.used() {
		i, j := m.place(at)
		d.tighten(i, j, b)
	}
}

// close makes all bounds as strict as the others make them; false: no valuation keeps them.
func (d *draft) close() bool {
	for i := 0; i <= d.clocks; i++ {
		if d.rows[i][i] < int64(atMostZero) {
			return false
		}
	}
	for by := 0; by <= d.clocks; by++ {
		if !d.closeBy(by) {
			return false
		}
	}
	return true
}

// closeBy makes all bounds as strict as ways by one clock make them. It gives up at the first clock that would be less than itself, so that no sum goes round such a circle again and again.
func (d *draft) closeBy(by int) bool {
	for i := 0; i <= d.clocks; i++ {
		for j := 0; j <= d.clocks; j++ {
			sum := plus(d.rows[i][by], d.rows[by][j])
			if sum >= d.rows[i][j] {
				continue
			}
			if i == j {
				return false
			}
			d.rows[i][j] = sum
		}
	}
	return true
}

// plus is the bound of a sum. An odd number is at most, an even one less than; the sum is odd only if both are.
func plus(a, b int64) int64 {
	if a == open || b == open {
		return open
	}
	return a + b - (a|b)&1
}

// zone is the zone of all valuations that keep the bounds.
func (d *draft) zone() (*Zone, api.Errno) {
	if !d.close() {
		return none(d.clocks), api.OK
	}
	z := none(d.clocks)
	for at := range z.used() {
		i, j := z.place(at)
		b, ok := narrow(d.rows[i][j])
		if !ok {
			return nil, api.ErrBound
		}
		z.cells[at] = b
	}
	return z, api.OK
}

// none is the empty zone: all its cells are less than 0, which is the number 0.
func none(n int) *Zone { return &Zone{matrix{frame: frame{n}}} }

func narrow(b int64) (api.Bound, bool) {
	if b == open {
		return api.Inf, true
	}
	if b < leastFinite || b > mostFinite {
		return 0, false
	}
	return api.Bound(b), true
}
