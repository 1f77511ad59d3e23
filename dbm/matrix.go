package dbm

import "gnomon/api"

// mostSide is the side of the greatest matrix.
const mostSide = api.MaxClocks + 1

// atMostZero is what each number keeps less itself, and 0 less each clock.
const atMostZero api.Bound = 1

// frame is how great a matrix is.
type frame struct {
	clocks int
}

func (f frame) side() int { return f.clocks + 1 }

func (f frame) has(i, j int) bool {
	return i >= 0 && i <= f.clocks && j >= 0 && j <= f.clocks
}

// place is the row and the column of what stands at a place, when all is told row by row.
func (f frame) place(at int) (i, j int) { return at / f.side(), at % f.side() }

// matrix holds its cells row by row, with no room between the rows. What it does not use stays 0: so two of as many clocks have the same cells just if the whole arrays are the same.
type matrix struct {
	frame
	cells [mostSide * mostSide]api.Bound
}

func (m *matrix) used() []api.Bound { return m.cells[:m.side()*m.side()] }

func (m *matrix) at(i, j int) api.Bound { return m.cells[i*m.side()+j] }

// hollow asks the one cell that each matrix has: in a closed form it is at most 0, but of an empty zone less than 0.
func (m *matrix) hollow() bool { return m.at(0, 0) < atMostZero }

func (m *matrix) nowhereLess(o *matrix) bool {
	for at, b := range m.used() {
		if b < o.cells[at] {
			return false
		}
	}
	return true
}
