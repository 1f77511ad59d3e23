package point

import (
	"gnomon/api"
	"gnomon/bound"
	"gnomon/dbm"
	"gnomon/rat"
)

// Span is delays, from one to another one.
type Span struct {
	Lo, Hi     api.Rat
	LoIn, HiIn bool
	Forever    bool
}

// Delays are those behind which a valuation is in a zone; false: there are none.
func Delays(z *dbm.Zone, v []api.Rat) (Span, bool) {
	if !fits(z, v) {
		return Span{}, false
	}
	at := byNumber(v)
	d := delays{lo: end{clock: rat.Of(0), in: true}, forever: true}
	for l := range limits(z) {
		n, reached, some := bound.Value(l.Bound)
		switch {
		case !some:
		case l.I != 0 && l.J == 0:
			d.upTo(end{n, at[l.I], reached})
		case l.I == 0 && l.J != 0:
			d.from(end{-n, at[l.J], reached})
		case !keeps(at, l): // a difference that no delay changes
			return Span{}, false
		}
	}
	if d.none() {
		return Span{}, false
	}
	return d.span()
}

// end is the delay behind which a clock, from what it has now, has a number; and whether it is one of a span. It is told by both, as that delay itself may be one that cannot be held, though another end is the nearer one.
type end struct {
	n     int
	clock api.Rat
	in    bool
}

// compare holds the delays against one another: n less clock against o's.
func (e end) compare(o end) int { return compareGap(o.clock, e.clock, o.n-e.n) }

func (e end) delay() (api.Rat, api.Errno) { return rat.Sub(rat.Of(e.n), e.clock) }

// delays is a span under way; hi is none as long as it is forever.
type delays struct {
	lo, hi  end
	forever bool
}

// from leaves out what is ahead of an end.
func (d *delays) from(e end) {
	if c := e.compare(d.lo); c > 0 || c == 0 && !e.in {
		d.lo = e
	}
}

// upTo leaves out what is behind an end.
func (d *delays) upTo(e end) {
	if d.forever {
		d.hi, d.forever = e, false
		return
	}
	if c := e.compare(d.hi); c < 0 || c == 0 && !e.in {
		d.hi = e
	}
}

func (d *delays) none() bool {
	if d.forever {
		return false
	}
	c := d.lo.compare(d.hi)
	return c > 0 || c == 0 && !(d.lo.in && d.hi.in)
}

// span tells the delays, if their ends can be held.
func (d *delays) span() (Span, bool) {
	lo, err := d.lo.delay()
	if err != api.OK {
		return Span{}, false
	}
	if d.forever {
		return Span{Lo: lo, LoIn: d.lo.in, Forever: true}, true
	}
	hi, err := d.hi.delay()
	if err != api.OK {
		return Span{}, false
	}
	return Span{Lo: lo, Hi: hi, LoIn: d.lo.in, HiIn: d.hi.in}, true
}
