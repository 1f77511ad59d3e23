package fed

import (
	"iter"

	"gnomon/api"
	"gnomon/bound"
	"gnomon/dbm"
	"gnomon/ops"
)

// row is zones of so many clocks, none of them empty, and at most MaxFed.
type row struct {
	clocks int
	zones  []*dbm.Zone
}

func (r *row) long() int { return len(r.zones) }

// add lays a zone behind the others, if it is not empty; false: there is no room for it.
func (r *row) add(z *dbm.Zone) bool {
	if z.Empty() {
		return true
	}
	if r.long() == api.MaxFed {
		return false
	}
	r.zones = append(r.zones, z)
	return true
}

// covers tells whether another zone includes the one at a place. One that is like it, as it is like itself, does so only from ahead.
func (r *row) covers(at int) bool {
	z := r.zones[at]
	for k, o := range r.zones {
		if o.Includes(z) && (k < at || !z.Includes(o)) {
			return true
		}
	}
	return false
}

// left goes through the parts of a zone that are not in another one of as many clocks. It ends with the first error.
func left(z, y *dbm.Zone) iter.Seq2[*dbm.Zone, api.Errno] {
	return func(yield func(*dbm.Zone, api.Errno) bool) {
		if !z.Meets(y) {
			yield(z, api.OK)
			return
		}
		inner := z
		for l := range limits(y) {
			if keeps(inner, l) {
				continue
			}
			// What comes first is told first: the part outside may be one too many, where what is inside can't be held.
			outer, err := ops.Constrain(inner, opposite(l))
			if !yield(outer, err) || err != api.OK {
				return
			}
			if inner, err = ops.Constrain(inner, l); err != api.OK {
				yield(nil, err)
				return
			}
		}
	}
}

// limits goes through the cells of a zone, row by row.
func limits(z *dbm.Zone) iter.Seq[api.Limit] {
	return func(yield func(api.Limit) bool) {
		side := z.Dim() + 1
		for at, b := range z.Cells() {
			if !yield(api.Limit{I: at / side, J: at % side, Bound: b}) {
				return
			}
		}
	}
}

// keeps tells whether all of a zone keeps a limit. The cells of a clock less itself are alike in all zones that have a valuation.
func keeps(z *dbm.Zone, l api.Limit) bool {
	b, _ := z.Cell(l.I, l.J)
	return b <= l.Bound
}

// opposite is kept just where a limit is not. It asks for no error, as each limit that something does not keep has one.
func opposite(l api.Limit) api.Limit {
	b, _ := bound.Not(l.Bound)
	return api.Limit{I: l.J, J: l.I, Bound: b}
}
