package rat

import "gnomon/api"

// Between is the simplest fraction between two.
func Between(a, b api.Rat) (api.Rat, api.Errno) {
	if !Right(a) || !Right(b) {
		return api.Rat{}, api.ErrForm
	}
	if Compare(a, b) >= 0 {
		return api.Rat{}, api.ErrRange
	}
	next := whole(Floor(a) + 1) // does not go round, as a is below b
	if Compare(next, b) < 0 {
		return next, api.OK
	}
	// No whole number is between them, so neither is 0: both are on one side of it.
	low, high, neg := termsOf(a), termsOf(b), a.Num < 0
	if neg {
		low, high = high, low
	}
	num, den := simplest(low, high)
	r, err := hold(signed{narrow(num), neg}, narrow(den))
	if err != api.OK {
		return api.Rat{}, api.ErrNone
	}
	return r, api.OK
}

// simplest is the fraction above low and below high, by their sizes, that has the least terms: of all fractions between, none has a smaller Num or a smaller Den, so if it cannot be held, none can. A high with the Den 0 is no end.
//
// It goes down the continued fraction of both: what is between is the whole part that both have, and 1 by what is between their turned rests. Nothing goes round in 64 bits: the sums of both Nums and of both Dens make a fraction between, too, and in lowest terms those are below 2^64.
func simplest(low, high terms) (num, den uint64) {
	part := low.num / low.den
	if product(part+1, high.den).below(narrow(high.num)) {
		return part + 1, 1
	}
	num, den = simplest(turned(high, part), turned(low, part))
	return part*num + den, num
}

// turned is 1 by what is left of t without its whole part.
func turned(t terms, part uint64) terms {
	return terms{num: t.den, den: t.num - part*t.den}
}
