package region

import (
	"cmp"
	"slices"

	"gnomon/api"
	"gnomon/rat"
)

// unheld is the constant of a clock that is held against nothing.
const unheld = -1

// limits are the greatest numbers that clocks are held against, none of them below 0.
type limits []int

func limitsOf(most []int) (limits, api.Errno) {
	var l limits
	for _, m := range most {
		if m < unheld || m > api.MaxConst {
			return nil, api.ErrConst
		}
		l = append(l, max(m, 0))
	}
	return l, api.OK
}

// limitsBy are limits by which a region is right.
func limitsBy(r Region, most []int) (limits, api.Errno) {
	l, err := limitsOf(most)
	if err != api.OK {
		return nil, err
	}
	if !l.take(r) {
		return nil, api.ErrForm
	}
	return l, api.OK
}

// take tells whether a region is right.
func (l limits) take(r Region) bool {
	if len(r.Whole) != len(l) || len(r.Rank) != len(l) {
		return false
	}
	for i, m := range l {
		whole, rank := r.Whole[i], r.Rank[i]
		if whole < 0 || whole > m+1 || whole >= m && rank != 0 {
			return false
		}
	}
	return slices.Equal(r.Rank, closed(r.Rank))
}

// has tells whether there is such a clock.
func (l limits) has(clock int) bool { return clock >= 1 && clock <= len(l) }

// isAbove tells whether a clock (from index 0 on) is above its limit.
func (l limits) isAbove(r Region, i int) bool { return r.Whole[i] > l[i] }

// isWhole tells whether a clock is at a whole number, which it leaves as soon as time passes.
func (l limits) isWhole(r Region, i int) bool { return r.Rank[i] == 0 && !l.isAbove(r, i) }

// of is the region of a valuation.
func (l limits) of(v []api.Rat) Region {
	var r Region
	var parts []api.Rat
	for i, x := range v {
		whole, part := l[i]+1, rat.Of(0)
		if rat.Compare(x, rat.Of(l[i])) <= 0 {
			whole, part = int(rat.Floor(x)), rat.Frac(x)
		}
		r.Whole, parts = append(r.Whole, whole), append(parts, part)
	}
	r.Rank = ranks(rat.Of(0), parts, rat.Compare)
	return r
}

// isNoTime tells whether a fraction can be no clock: it is not right, or below 0.
func isNoTime(x api.Rat) bool { return !rat.Right(x) || x.Num < 0 }

// ranks are the places of things among those that are unlike, rising, with that of which the rank is 0.
func ranks[E comparable](nought E, l []E, compare func(a, b E) int) []int {
	rising := append([]E{nought}, l...)
	slices.SortFunc(rising, compare)
	rising = slices.Compact(rising)
	places := make([]int, len(l))
	for i, x := range l {
		places[i], _ = slices.BinarySearchFunc(rising, x, compare)
	}
	return places
}

// closed are ranks of the same order, none left out.
func closed(l []int) []int { return ranks(0, l, cmp.Compare[int]) }

// later is the next region when time passes.
func (l limits) later(r Region) Region {
	for i := range l {
		if l.isWhole(r, i) {
			return l.leave(r)
		}
	}
	return l.arrive(r)
}

// leave gives the clocks that have no fraction the least one.
func (l limits) leave(r Region) Region {
	next := r.copied()
	for i, m := range l {
		switch {
		case l.isAbove(r, i):
		case r.Rank[i] == 0 && r.Whole[i] == m:
			next.Whole[i]++
		default:
			next.Rank[i]++
		}
	}
	// Where no clock has the least fraction, as those that had none are above, the others keep their ranks.
	next.Rank = closed(next.Rank)
	return next
}

// arrive lets the clocks of the greatest fraction come to the next whole number; where all are above, nothing changes.
func (l limits) arrive(r Region) Region {
	next := r.copied()
	top := r.top()
	for i := range l {
		if r.Rank[i] == top && !l.isAbove(r, i) {
			next.Whole[i]++
			next.Rank[i] = 0
		}
	}
	return next
}

// set is a region behind sets of clocks.
func (l limits) set(r Region, sets ...api.Set) Region {
	next := r.copied()
	for _, s := range sets {
		i := s.Clock - 1
		next.Whole[i], next.Rank[i] = min(s.N, l[i]+1), 0
	}
	next.Rank = closed(next.Rank)
	return next
}

func (r Region) copied() Region {
	return Region{Whole: slices.Clone(r.Whole), Rank: slices.Clone(r.Rank)}
}

// top is the greatest rank; 0, if there is none.
func (r Region) top() int {
	top := 0
	for _, rank := range r.Rank {
		top = max(top, rank)
	}
	return top
}

// point is a valuation of a region, whose fractions are as far from one another as from the whole numbers.
func (r Region) point() []api.Rat {
	den := int64(r.top()) + 1
	var v []api.Rat
	for i, whole := range r.Whole {
		// No error: den is not 0, and the number is small.
		x, _ := rat.New(int64(whole)*den+int64(r.Rank[i]), den)
		v = append(v, x)
	}
	return v
}

// keeps tells whether guards hold.
func (r Region) keeps(guards ...api.Guard) bool {
	return !slices.ContainsFunc(guards, func(g api.Guard) bool { return !r.holds(g) })
}

// holds tells whether a guard holds whose number is not above the clock's limit.
func (r Region) holds(g api.Guard) bool {
	// A fraction lifts a clock above its whole part, and not up to the next one.
	side := cmp.Or(cmp.Compare(r.Whole[g.Clock-1], g.N), r.Rank[g.Clock-1])
	switch g.Cmp {
	case api.Lt:
		return side < 0
	case api.Le:
		return side <= 0
	case api.Eq:
		return side == 0
	case api.Ge:
		return side >= 0
	}
	return side > 0
}
