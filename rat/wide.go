package rat

import "math/bits"

// wide is a whole number of 128 bits: products of two numbers of 64 bits, and sums of two such products of sizes up to 2^63, never go round in it.
type wide struct {
	hi, lo uint64
}

func narrow(n uint64) wide { return wide{lo: n} }

func product(a, b uint64) wide {
	hi, lo := bits.Mul64(a, b)
	return wide{hi, lo}
}

func (w wide) zero() bool { return w == wide{} }

func (w wide) below(o wide) bool {
	return w.hi < o.hi || w.hi == o.hi && w.lo < o.lo
}

func (w wide) plus(o wide) wide {
	lo, carry := bits.Add64(w.lo, o.lo, 0)
	hi, _ := bits.Add64(w.hi, o.hi, carry)
	return wide{hi, lo}
}

// minus is for an o that is not above w.
func (w wide) minus(o wide) wide {
	lo, borrow := bits.Sub64(w.lo, o.lo, 0)
	hi, _ := bits.Sub64(w.hi, o.hi, borrow)
	return wide{hi, lo}
}

// over is the quotient by d, which is not 0, and the rest.
func (w wide) over(d uint64) (wide, uint64) {
	hi, rest := w.hi/d, w.hi%d
	lo, rest := bits.Div64(rest, w.lo, d)
	return wide{hi, lo}, rest
}

// atMost tells whether it is one of the numbers up to n.
func (w wide) atMost(n uint64) bool { return w.hi == 0 && w.lo <= n }

// signed is a wide number with a sign, which says nothing of 0.
type signed struct {
	wide
	neg bool
}

func (s signed) add(o signed) signed {
	switch {
	case s.neg == o.neg:
		return signed{s.plus(o.wide), s.neg}
	case s.below(o.wide):
		return signed{o.minus(s.wide), o.neg}
	}
	return signed{s.minus(o.wide), s.neg}
}

func (s signed) sign() int {
	switch {
	case s.zero():
		return 0
	case s.neg:
		return -1
	}
	return 1
}
