package session

import (
	"gnomon/api"
	"gnomon/dbm"
	"gnomon/extra"
	"gnomon/ops"
)

// Kinds of calls.
const (
	zero = iota
	up
	down
	reset
	free
	constrain
	and
	widen
	ofCells
	includes
	equal
	empty
	widenBoth
)

// needs is how many zones a call of each kind works on.
var needs = [...]int{zero: 0, up: 1, down: 1, reset: 1, free: 1, constrain: 1, and: 2, widen: 1, ofCells: 0, includes: 2, equal: 2, empty: 1, widenBoth: 1}

// row is the zones that a script has made so far.
type row struct {
	clocks int
	zones  []*dbm.Zone
}

// do is what a call tells. Only what was made is put into the row: so a call with an error takes no number.
func (r *row) do(c Call) Told {
	if err := r.wrong(c); err != api.OK {
		return Told{Errno: err}
	}
	if yes, asked := r.asks(c); asked {
		return Told{Yes: yes}
	}
	z, err := r.makes(c)
	if err != api.OK {
		return Told{Errno: err}
	}
	r.zones = append(r.zones, z)
	return Told{Cells: z.Cells()}
}

// wrong tells whether a call is none, or works on a zone that is none.
func (r *row) wrong(c Call) api.Errno {
	if c.Kind < 0 || c.Kind >= len(needs) {
		return api.ErrForm
	}
	for _, number := range []int{c.A, c.B}[:needs[c.Kind]] {
		if r.at(number) == nil {
			return api.ErrNone
		}
	}
	return api.OK
}

// at is the zone of a number; nil, if there is none.
func (r *row) at(number int) *dbm.Zone {
	if number < 0 || number >= len(r.zones) {
		return nil
	}
	return r.zones[number]
}

// asks is the answer of a question; false: the call makes a zone.
func (r *row) asks(c Call) (yes, asked bool) {
	a, b := r.at(c.A), r.at(c.B)
	switch c.Kind {
	case includes:
		return a.Includes(b), true
	case equal:
		return a.Equal(b), true
	case empty:
		return a.Empty(), true
	}
	return false, false
}

// makes is the zone that a call makes.
func (r *row) makes(c Call) (*dbm.Zone, api.Errno) {
	a := r.at(c.A)
	switch c.Kind {
	case up:
		return ops.Up(a)
	case down:
		return ops.Down(a)
	case reset:
		return ops.Reset(a, c.I, c.N)
	case free:
		return ops.Free(a, c.I)
	case constrain:
		return ops.Constrain(a, api.Limit{I: c.I, J: c.J, Bound: c.Bound})
	case and:
		return ops.And(a, r.at(c.B))
	case widen:
		return extra.Max(a, c.Numbers)
	case ofCells:
		return zoneOf(r.clocks, c.Numbers)
	case widenBoth:
		return halves(a, c.Numbers)
	}
	return dbm.Zero(r.clocks)
}

// zoneOf is the zone of numbers as bounds. Where one can't be a bound at all, there is nothing to hand on: so that is told ahead of how many there are.
func zoneOf(n int, numbers []int) (*dbm.Zone, api.Errno) {
	var cells []api.Bound
	for _, x := range numbers {
		b := api.Bound(x)
		if int(b) != x {
			return nil, api.ErrForm
		}
		cells = append(cells, b)
	}
	return dbm.Of(n, cells)
}

// halves is a zone, widened by the first half of numbers from below, by the second from above.
func halves(z *dbm.Zone, numbers []int) (*dbm.Zone, api.Errno) {
	if len(numbers)%2 != 0 {
		return nil, api.ErrLong
	}
	middle := len(numbers) / 2
	return extra.LU(z, numbers[:middle], numbers[middle:])
}
