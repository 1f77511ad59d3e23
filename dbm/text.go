package dbm

import (
	"strconv"
	"strings"

	"gnomon/api"
	"gnomon/bound"
	"gnomon/decimal"
)

// emptyText stands in an empty zone's text in the place of its cells.
const emptyText = " empty"

// Key is a zone as bytes, that no other one has.
func (z *Zone) Key() []byte {
	if z == nil {
		return nil
	}
	key := make([]byte, 0, 1+4*len(z.used()))
	key = append(key, byte(z.clocks))
	for _, b := range z.used() {
		// With the highest bit turned, numbers below 0 come ahead of the others.
		u := uint32(b) ^ 1<<31
		key = append(key, byte(u>>24), byte(u>>16), byte(u>>8), byte(u))
	}
	return key
}

// Print is a zone as a text.
func (z *Zone) Print() string {
	if z == nil {
		return ""
	}
	head := strconv.Itoa(z.clocks) + ":"
	if z.hollow() {
		return head + emptyText
	}
	var text strings.Builder
	text.WriteString(head)
	for at, b := range z.used() {
		if i, j := z.place(at); tells(i, j, b) {
			text.WriteString(" x" + strconv.Itoa(i) + "-x" + strconv.Itoa(j) + bound.Print(b))
		}
	}
	return text.String()
}

// tells tells whether a cell stands in a zone's text: it does not where all zones have it.
func tells(i, j int, b api.Bound) bool {
	return i != j && b != api.Inf && (i != 0 || b < atMostZero)
}

// Parse reads one.
func Parse(s string) (*Zone, api.Errno) {
	z, ok := read(s)
	// A zone has one text: bounds that are not closed, told twice, or in another order are none.
	if !ok || z.Print() != s {
		return nil, api.ErrForm
	}
	return z, api.OK
}

func read(s string) (*Zone, bool) {
	head, rest, _ := strings.Cut(s, ":")
	n, ok := decimal.Read(head)
	if !ok || n < 0 || n > api.MaxClocks {
		return nil, false
	}
	if rest == emptyText {
		return none(int(n)), true
	}
	d := draftOf(int(n))
	for rest != "" {
		term, ok := strings.CutPrefix(rest, " ")
		if !ok {
			return nil, false
		}
		rest = ""
		if end := strings.IndexByte(term, ' '); end >= 0 {
			term, rest = term[:end], term[end:]
		}
		l, ok := readTerm(term)
		if !ok || !d.has(l.I, l.J) {
			return nil, false
		}
		d.tighten(l.I, l.J, l.Bound)
	}
	z, err := d.zone()
	return z, err == api.OK
}

func readTerm(s string) (api.Limit, bool) {
	sign := strings.IndexByte(s, '<')
	if sign < 0 {
		return api.Limit{}, false
	}
	left, right, _ := strings.Cut(s[:sign], "-")
	i, iOK := readClock(left)
	j, jOK := readClock(right)
	b, err := bound.Parse(s[sign:])
	return api.Limit{I: i, J: j, Bound: b}, iOK && jOK && err == api.OK
}

func readClock(s string) (int, bool) {
	number, named := strings.CutPrefix(s, "x")
	i, ok := decimal.Read(number)
	return int(i), named && ok
}
