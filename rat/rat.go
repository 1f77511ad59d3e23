// Package rat reckons with fractions. See ../../shared/doc/02-rat.md.
package rat

import (
	"math"
	"strconv"
	"strings"

	"gnomon/api"
	"gnomon/decimal"
)

// terms is a fraction by the sizes of its terms, as the size of -2^63 is none of int64.
type terms struct {
	num, den uint64
	neg      bool
}

func termsOf(r api.Rat) terms {
	return terms{size(r.Num), size(r.Den), r.Num < 0}
}

func (t terms) opposite() terms {
	t.neg = !t.neg
	return t
}

// times is the Num that it has if its terms are made f times as great.
func (t terms) times(f uint64) signed { return signed{product(t.num, f), t.neg} }

func size(n int64) uint64 {
	if n < 0 {
		return -uint64(n) // goes round to 2^63 where -n cannot be held
	}
	return uint64(n)
}

// gcd is the greatest divisor in common; that of 0 and b is b.
func gcd(a, b uint64) uint64 {
	for b != 0 {
		a, b = b, a%b
	}
	return a
}

// hold is the fraction with these lowest terms.
func hold(num signed, den wide) (api.Rat, api.Errno) {
	most := uint64(math.MaxInt64)
	if num.neg {
		most++
	}
	if !num.atMost(most) || !den.atMost(math.MaxInt64) {
		return api.Rat{}, api.ErrOver
	}
	n := int64(num.lo)
	if num.neg {
		n = -n // 2^63 has become -2^63 already, and stays so
	}
	return api.Rat{Num: n, Den: int64(den.lo)}, api.OK
}

// New is a fraction in lowest terms.
func New(num, den int64) (api.Rat, api.Errno) {
	if den == 0 {
		return api.Rat{}, api.ErrZero
	}
	a, b := size(num), size(den)
	g := gcd(a, b)
	return hold(signed{narrow(a / g), (num < 0) != (den < 0)}, narrow(b/g))
}

// Of is a whole number.
func Of(n int) api.Rat { return whole(int64(n)) }

func whole(n int64) api.Rat { return api.Rat{Num: n, Den: 1} }

// Right tells whether a fraction is in lowest terms.
func Right(r api.Rat) bool {
	return r.Den > 0 && gcd(size(r.Num), size(r.Den)) == 1
}

// Add is the sum of two.
func Add(a, b api.Rat) (api.Rat, api.Errno) {
	if !Right(a) || !Right(b) {
		return api.Rat{}, api.ErrForm
	}
	return sum(termsOf(a), termsOf(b))
}

// Sub is the difference.
func Sub(a, b api.Rat) (api.Rat, api.Errno) {
	if !Right(a) || !Right(b) {
		return api.Rat{}, api.ErrForm
	}
	return sum(termsOf(a), termsOf(b).opposite())
}

// sum takes out what the Dens have in common first: then all that is left to take out of the sum's terms divides that, and no number of 128 bits has to be divided by another one.
func sum(a, b terms) (api.Rat, api.Errno) {
	g := gcd(a.den, b.den)
	num := a.times(b.den / g).add(b.times(a.den / g))
	_, rest := num.over(g)
	h := gcd(rest, g)
	lowest, _ := num.over(h)
	return hold(signed{lowest, num.neg}, product(a.den/g, b.den/h))
}

// Mul is the product.
func Mul(a, b api.Rat) (api.Rat, api.Errno) {
	if !Right(a) || !Right(b) {
		return api.Rat{}, api.ErrForm
	}
	return multiply(termsOf(a), termsOf(b))
}

// Div is the quotient.
func Div(a, b api.Rat) (api.Rat, api.Errno) {
	if !Right(a) || !Right(b) {
		return api.Rat{}, api.ErrForm
	}
	if b.Num == 0 {
		return api.Rat{}, api.ErrZero
	}
	t := termsOf(b)
	return multiply(termsOf(a), terms{t.den, t.num, t.neg})
}

// multiply takes out crosswise what can be, so that the products are lowest terms.
func multiply(a, b terms) (api.Rat, api.Errno) {
	g, h := gcd(a.num, b.den), gcd(b.num, a.den)
	num := product(a.num/g, b.num/h)
	return hold(signed{num, a.neg != b.neg}, product(a.den/h, b.den/g))
}

// Sum is the sum of all.
func Sum(l ...api.Rat) (api.Rat, api.Errno) {
	if len(l) == 0 {
		return whole(0), api.OK
	}
	if !Right(l[0]) {
		return api.Rat{}, api.ErrForm
	}
	total := l[0]
	for _, r := range l[1:] {
		next, err := Add(total, r)
		if err != api.OK {
			return api.Rat{}, err
		}
		total = next
	}
	return total, api.OK
}

// Compare tells which of two is greater.
func Compare(a, b api.Rat) int {
	if !Right(a) || !Right(b) {
		return 0
	}
	x, y := termsOf(a), termsOf(b)
	return x.times(y.den).add(y.opposite().times(x.den)).sign()
}

// Least is the least of all; false: there is none.
func Least(l ...api.Rat) (api.Rat, bool) {
	return choose(l, func(a, b api.Rat) bool { return Compare(a, b) < 0 })
}

// Greatest is the greatest of all; false: there is none.
func Greatest(l ...api.Rat) (api.Rat, bool) {
	return choose(l, func(a, b api.Rat) bool { return Compare(a, b) > 0 })
}

func choose(l []api.Rat, better func(a, b api.Rat) bool) (api.Rat, bool) {
	if len(l) == 0 {
		return api.Rat{}, false
	}
	best := l[0]
	for _, r := range l {
		if !Right(r) {
			return api.Rat{}, false
		}
		if better(r, best) {
			best = r
		}
	}
	return best, true
}

// Floor is the greatest whole number that is not above it.
func Floor(r api.Rat) int64 {
	if !Right(r) {
		return 0
	}
	floor, _ := divide(r)
	return floor
}

// Ceil is the least whole number that is not below it.
func Ceil(r api.Rat) int64 {
	if !Right(r) {
		return 0
	}
	floor, rest := divide(r)
	if rest > 0 {
		return floor + 1
	}
	return floor
}

// Frac is what it has above Floor.
func Frac(r api.Rat) api.Rat {
	if !Right(r) {
		return whole(0)
	}
	_, rest := divide(r)
	return api.Rat{Num: rest, Den: r.Den}
}

// divide rounds down, so that the rest is not below 0.
func divide(r api.Rat) (floor, rest int64) {
	floor, rest = r.Num/r.Den, r.Num%r.Den
	if rest < 0 {
		return floor - 1, rest + r.Den
	}
	return floor, rest
}

// Print is a fraction as a text.
func Print(r api.Rat) string {
	if !Right(r) {
		return ""
	}
	num := strconv.FormatInt(r.Num, 10)
	if r.Den == 1 {
		return num
	}
	return num + "/" + strconv.FormatInt(r.Den, 10)
}

// Parse reads one.
func Parse(s string) (api.Rat, api.Errno) {
	top, bottom, slash := strings.Cut(s, "/")
	num, ok := decimal.Read(top)
	den := int64(1)
	if slash && ok {
		den, ok = decimal.Read(bottom)
	}
	r := api.Rat{Num: num, Den: den}
	// A Den of 1 is not written, and terms that are not lowest have no text.
	if !ok || Print(r) != s {
		return api.Rat{}, api.ErrForm
	}
	return r, api.OK
}
