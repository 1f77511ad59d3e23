package point

import (
	"gnomon/api"
	"gnomon/bound"
	"gnomon/dbm"
	"gnomon/rat"
)

// Least is the least valuation of a zone on a grid.
func Least(z *dbm.Zone) ([]api.Rat, api.Errno) {
	if z == nil {
		return nil, api.ErrNil
	}
	if z.Empty() {
		return nil, api.ErrEmpty
	}
	g := grid(z.Dim() + 1)
	return gather(g.least(z)[1:], func(units int64) (api.Rat, api.Errno) { return rat.New(units, int64(g)) })
}

// grid is how many units are 1.
type grid int64

// most is the greatest number of units that keeps a bound.
func (g grid) most(n int, reached bool) int64 {
	units := int64(n) * int64(g)
	if reached {
		return units
	}
	return units - 1
}

// least is what each number has at least, in units, that of 0 first.
//
// A bound that is not reached takes a unit off, so what is closed in fractions need not be so on the grid: each number is raised till the cells ask for no more. As many rounds as there are clocks are enough, as no way from 0 that comes to each number once has more cells. And no circle asks for more for ever: it has at most as many cells as 1 has units, and the numbers of its bounds, if one of them is not reached, add up to 1 or more.
func (g grid) least(z *dbm.Zone) []int64 {
	units := make([]int64, z.Dim()+1)
	for range z.Dim() {
		for l := range limits(z) {
			if n, reached, some := bound.Value(l.Bound); some {
				units[l.J] = max(units[l.J], units[l.I]-g.most(n, reached))
			}
		}
	}
	return units
}
