package shell

import (
	"math"
	"strings"

	"gnomon/api"
	"gnomon/bound"
	"gnomon/decimal"
	"gnomon/point"
)

// maxName is how many letters a name of a script has at most.
const maxName = 8

// order is what a line says behind its first word; what is not read of it is its TEXT.
type order struct {
	cursor
	names   []string
	numbers []int
	limits  []api.Limit
	point   []api.Rat
}

// form is what must stand behind a line's first word: so many names, so many numbers, and what its end says.
type form struct {
	names, numbers int
	end            func(*order) bool
}

// read reads the words of a line; false: they are not such.
func (f form) read(c cursor) (order, bool) {
	o := order{cursor: c}
	for range f.names {
		if !o.name() {
			return order{}, false
		}
	}
	for range f.numbers {
		if !o.number() {
			return order{}, false
		}
	}
	return o, f.end(&o)
}

func (o *order) name() bool {
	w := o.word()
	o.names = append(o.names, w)
	return isName(w)
}

func isName(w string) bool {
	for i := range len(w) {
		if w[i] < 'a' || w[i] > 'z' {
			return false
		}
	}
	return len(w) >= 1 && len(w) <= maxName
}

func (o *order) number() bool {
	n, ok := decimal.Read(o.word())
	if !ok || n < 0 || n > math.MaxInt32 {
		return false
	}
	o.numbers = append(o.numbers, int(n))
	return true
}

// nothing is the end of a line that has no word more.
func (o *order) nothing() bool { return !o.hasWord() }

// text is the end of a line with a TEXT.
func (o *order) text() bool { return o.hasWord() }

// anyText is that of one whose TEXT may be missing.
func (o *order) anyText() bool { return true }

// valuation is that of one whose TEXT is a valuation: that of no clocks has no word.
func (o *order) valuation() bool {
	v, err := point.Parse(o.rest)
	o.point = v
	return err == api.OK
}

// allNumbers is that of one with as many numbers as one likes: of a zone without clocks there are none.
func (o *order) allNumbers() bool {
	for o.hasWord() {
		if !o.number() {
			return false
		}
	}
	return true
}

// allLimits is that of one with limits, one or more.
func (o *order) allLimits() bool {
	for o.hasWord() {
		l, ok := limitOf(o.word())
		if !ok {
			return false
		}
		o.limits = append(o.limits, l)
	}
	return len(o.limits) > 0
}

// limitOf is the limit that a word says.
func limitOf(word string) (api.Limit, bool) {
	difference, ok := strings.CutPrefix(word, "x")
	i, rest, both := strings.Cut(difference, "-x")
	// A number ends where the text of a bound begins: <=, < or inf.
	at := strings.IndexAny(rest, "<i")
	if !ok || !both || at < 0 {
		return api.Limit{}, false
	}
	b, err := bound.Parse(rest[at:])
	first, isFirst := clockOf(i)
	second, isSecond := clockOf(rest[:at])
	return api.Limit{I: first, J: second, Bound: b}, isFirst && isSecond && err == api.OK
}

// noClock is a number that no clock has.
const noClock = -1

// clockOf is the clock that a number in decimal says. One too long to be held is a number too: it is told as one that no clock has.
func clockOf(s string) (int, bool) {
	if n, ok := decimal.Read(s); ok {
		return int(n), true
	}
	digits := strings.TrimPrefix(s, "-")
	return noClock, digits != "" && digits[0] != '0' && strings.Trim(digits, "0123456789") == ""
}
