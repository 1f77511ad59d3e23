package ops

import (
	"gnomon/api"
	"gnomon/dbm"
)

// mostSide is the side of the greatest matrix.
const mostSide = api.MaxClocks + 1

// atMostZero is what each number keeps less itself, and 0 less each clock.
const atMostZero api.Bound = 1

// frame is how many clocks a draft has, and which numbers stand for them.
type frame struct {
	clocks int
}

func (f frame) side() int { return f.clocks + 1 }

// has tells whether all numbers stand for clocks that can be set.
func (f frame) has(clocks ...int) bool {
	for _, c := range clocks {
		if c < 1 || c > f.clocks {
			return false
		}
	}
	return true
}

// bounds tells whether a limit is of clocks, or of 0.
func (f frame) bounds(l api.Limit) bool {
	return l.I >= 0 && l.I <= f.clocks && l.J >= 0 && l.J <= f.clocks
}

type row [mostSide]api.Bound

// draft is a zone under way: its bounds need not be closed. Nobody loosens the cell (0, 0) of an empty zone but by a zone that is not, so what is made of it stays empty.
type draft struct {
	frame
	rows [mostSide]row
}

func draftOf(z *dbm.Zone) *draft {
	d := &draft{frame: frame{z.Dim()}}
	for at, b := range z.Cells() {
		d.rows[at/d.side()][at%d.side()] = b
	}
	return d
}

// hollow asks the one cell by which an empty zone differs from all others, whatever its clocks.
func (d *draft) hollow() bool { return d.rows[0][0] < atMostZero }

// tighten lets all bounds be as strict as those of a zone of as many clocks.
func (d *draft) tighten(z *dbm.Zone) {
	for at, b := range z.Cells() {
		d.limit(api.Limit{I: at / d.side(), J: at % d.side(), Bound: b})
	}
}

// loosen lets all bounds be as loose as those of a zone of as many clocks.
func (d *draft) loosen(z *dbm.Zone) {
	for at, b := range z.Cells() {
		cell := &d.rows[at/d.side()][at%d.side()]
		*cell = max(*cell, b)
	}
}

func (d *draft) limit(l api.Limit) {
	cell := &d.rows[l.I][l.J]
	*cell = min(*cell, l.Bound)
}

// free forgets all of a clock but that it is not below 0: so others, less it, are bounded as less 0.
func (d *draft) free(clock int) {
	for i := 0; i <= d.clocks; i++ {
		d.rows[clock][i] = api.Inf
		d.rows[i][clock] = d.rows[i][0]
	}
}

// follow gives a clock all bounds of another one.
func (d *draft) follow(to, from int) {
	d.rows[to] = d.rows[from]
	for i := 0; i <= d.clocks; i++ {
		d.rows[i][to] = d.rows[i][from]
	}
}

// zone closes the bounds.
func (d *draft) zone() (*dbm.Zone, api.Errno) {
	cells := make([]api.Bound, 0, d.side()*d.side())
	for i := range d.side() {
		cells = append(cells, d.rows[i][:d.side()]...)
	}
	return dbm.Of(d.clocks, cells)
}
