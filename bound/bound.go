// Package bound is bounds of differences. See ../../shared/doc/01-bound.md.
package bound

import (
	"strconv"
	"strings"

	"gnomon/api"
	"gnomon/decimal"
)

// The texts of bounds: what stands ahead of the number, and the whole text of Inf.
const (
	atMostSign   = "<="
	lessThanSign = "<"
	infText      = "inf"
)

// AtMost is the bound of at most v.
func AtMost(v int) (api.Bound, api.Errno) { return of(int64(v), true) }

// LessThan is the bound of less than v.
func LessThan(v int) (api.Bound, api.Errno) { return of(int64(v), false) }

// of takes 64 bits, as a sum of many numbers must not go round ahead of being held against the limit.
func of(v int64, reached bool) (api.Bound, api.Errno) {
	if v < -api.MaxBound || v > api.MaxBound {
		return 0, api.ErrBound
	}
	if reached {
		return api.Bound(2*v + 1), api.OK
	}
	return api.Bound(2 * v), api.OK
}

// Right tells whether a bound may be.
func Right(b api.Bound) bool {
	return b == api.Inf || b >= -2*api.MaxBound && b <= 2*api.MaxBound+1
}

// Value is a bound's number, and whether it may be reached; false: it is none.
func Value(b api.Bound) (v int, reached bool, some bool) {
	if b == api.Inf || !Right(b) {
		return 0, false, false
	}
	// A shift rounds down, where a division would round towards 0.
	return int(b >> 1), b&1 == 1, true
}

// Add is the bound of a sum.
func Add(a, b api.Bound) (api.Bound, api.Errno) { return Sum(a, b) }

// Sum is the bound of the sum of all.
func Sum(l ...api.Bound) (api.Bound, api.Errno) {
	total, reached, inf := int64(0), true, false
	for _, b := range l {
		if !Right(b) {
			return 0, api.ErrForm
		}
		v, r, some := Value(b)
		total += int64(v)
		reached = reached && r
		inf = inf || !some
	}
	if inf {
		return api.Inf, api.OK
	}
	return of(total, reached)
}

// Not is the bound of the opposite difference where a bound does not hold.
func Not(b api.Bound) (api.Bound, api.Errno) {
	if !Right(b) {
		return 0, api.ErrForm
	}
	v, reached, some := Value(b)
	if !some {
		return 0, api.ErrNone
	}
	return of(-int64(v), !reached)
}

// Least is the strictest of bounds.
func Least(l ...api.Bound) api.Bound {
	return fold(api.Inf, l, func(a, b api.Bound) api.Bound { return min(a, b) })
}

func fold(first api.Bound, l []api.Bound, join func(a, b api.Bound) api.Bound) api.Bound {
	for _, b := range l {
		first = join(first, b)
	}
	return first
}

// Holds tells whether a fraction keeps a bound.
func Holds(b api.Bound, num, den int64) bool {
	if b == api.Inf {
		return true
	}
	v, reached, some := Value(b)
	if !some || den < 1 {
		return false
	}
	// The whole part is held against v, as v times den may not fit in 64 bits.
	whole, rest := num/den, num%den
	if rest < 0 {
		whole--
	}
	return whole < int64(v) || reached && whole == int64(v) && rest == 0
}

// Print is a bound as a text.
func Print(b api.Bound) string {
	if b == api.Inf {
		return infText
	}
	v, reached, some := Value(b)
	if !some {
		return ""
	}
	if reached {
		return atMostSign + strconv.Itoa(v)
	}
	return lessThanSign + strconv.Itoa(v)
}

// Parse reads one.
func Parse(s string) (api.Bound, api.Errno) {
	if s == infText {
		return api.Inf, api.OK
	}
	// The longer sign is asked for first, as the shorter one begins it.
	number, reached := strings.CutPrefix(s, atMostSign)
	if !reached {
		rest, less := strings.CutPrefix(s, lessThanSign)
		if !less {
			return 0, api.ErrForm
		}
		number = rest
	}
	v, ok := decimal.Read(number)
	if !ok {
		return 0, api.ErrForm
	}
	b, err := of(v, reached)
	if err != api.OK {
		return 0, api.ErrForm
	}
	return b, api.OK
}
