package reduce

import "gnomon/api"

const (
	headWide  = 2 // bytes ahead of the bounds
	limitWide = 5 // bytes of a bound
)

// packed are bounds of n clocks as bytes.
func packed(n int, l ...api.Limit) []byte {
	b := []byte{byte(n), byte(len(l))}
	for _, x := range l {
		// The highest bit is turned, as in dbm.Key.
		u := uint32(x.Bound) ^ 1<<31
		b = append(b, byte(16*x.I+x.J), byte(u>>24), byte(u>>16), byte(u>>8), byte(u))
	}
	return b
}

// misfit is the place at which bytes have too many clocks, or are not as many as they tell.
func misfit(b []byte) (at int, is bool) {
	switch {
	case len(b) == 0 || b[0] > api.MaxClocks:
		return 0, true
	case len(b) < headWide:
		return len(b), true
	}
	end := headWide + limitWide*int(b[1])
	if len(b) == end {
		return 0, false
	}
	return min(len(b), end), true
}

// pieces are the bytes of each bound, each cut so that it has no room in that of the next one.
func pieces(b []byte) [][]byte {
	var l [][]byte
	for at := headWide; at < len(b); at += limitWide {
		end := at + limitWide
		l = append(l, b[at:end:end])
	}
	return l
}

// limitOf is the bound of a piece, whatever its numbers are.
func limitOf(piece []byte) api.Limit {
	var u uint32
	for _, x := range piece[1:] {
		u = u<<8 | uint32(x)
	}
	return api.Limit{I: int(piece[0] >> 4), J: int(piece[0] & 15), Bound: api.Bound(u ^ 1<<31)}
}
