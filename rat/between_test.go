package rat

import (
	"math/big"
	"testing"

	"gnomon/api"
)

// firstBetween is the least of the fractions with the least Den, by going through the Dens up to most.
func firstBetween(a, b api.Rat, most int64) (api.Rat, bool) {
	for den := int64(1); den <= most; den++ {
		num := new(big.Int).Mul(big.NewInt(a.Num), big.NewInt(den))
		num.Div(num, big.NewInt(a.Den)).Add(num, big.NewInt(1))
		if x := new(big.Rat).SetFrac(num, big.NewInt(den)); x.Cmp(exactly(b)) < 0 {
			r, err := held(x)
			return r, err == api.OK
		}
	}
	return api.Rat{}, false
}

func TestP2_4BetweenSmall(t *testing.T) {
	l := small(12)
	for _, a := range l {
		for _, b := range l {
			r, err := Between(a, b)
			if exactly(a).Cmp(exactly(b)) >= 0 {
				if r != (api.Rat{}) || err != api.ErrRange {
					t.Error(a, b, r, err)
				}
				continue
			}
			if want, some := firstBetween(a, b, 24); r != want || err != api.OK || !some {
				t.Error(a, b, r, err, want, some)
			}
		}
	}
}

// leastBetween is the same by continued fractions over numbers of any size; without a b there is no end.
func leastBetween(a, b *big.Rat) *big.Rat {
	one := big.NewRat(1, 1)
	floor := new(big.Rat).SetInt(new(big.Int).Div(a.Num(), a.Denom()))
	next := new(big.Rat).Add(floor, one)
	if b == nil || next.Cmp(b) < 0 {
		return next
	}
	var end *big.Rat
	if rest := new(big.Rat).Sub(a, floor); rest.Sign() > 0 {
		end = rest.Inv(rest)
	}
	start := new(big.Rat).Sub(b, floor)
	found := leastBetween(start.Inv(start), end)
	return found.Add(found.Inv(found), floor)
}

func TestP2_4BetweenGreat(t *testing.T) {
	l := append(small(3), great()...)
	none := 0
	for _, a := range l {
		for _, b := range l {
			if exactly(a).Cmp(exactly(b)) >= 0 {
				continue
			}
			want, wantErr := held(leastBetween(exactly(a), exactly(b)))
			if wantErr != api.OK {
				wantErr = api.ErrNone
				none++
			}
			if r, err := Between(a, b); r != want || err != wantErr {
				t.Error(a, b, r, err, want, wantErr)
			}
		}
	}
	if none == 0 {
		t.Error("there is always one")
	}
}

func TestP2_4BetweenEdges(t *testing.T) {
	// -2^63/3 can be held, and 2^63/3 cannot: these two are the nearest to it on both sides.
	const third, half = 3074457345618258603, 6148914691236517205
	for _, x := range []struct {
		a, b, want api.Rat
		err        api.Errno
	}{
		{f(1, 3), f(1, 2), f(2, 5), api.OK}, {f(0, 1), f(5, 1), f(1, 1), api.OK}, {f(-1, 2), f(1, 2), f(0, 1), api.OK}, {f(-5, 1), f(5, 1), f(-4, 1), api.OK},
		{f(0, 1), f(1, 1), f(1, 2), api.OK}, {f(-1, 1), f(0, 1), f(-1, 2), api.OK}, {f(-1, 2), f(-1, 3), f(-2, 5), api.OK}, {f(-5, 2), f(-2, 1), f(-7, 3), api.OK},
		{f(5, 2), f(3, 1), f(8, 3), api.OK}, {f(5, 2), f(7, 2), f(3, 1), api.OK}, {f(0, 1), f(1, 7), f(1, 8), api.OK}, {f(6, 7), f(1, 1), f(7, 8), api.OK},
		{f(bottom, 1), f(top, 1), f(bottom+1, 1), api.OK}, {f(top-2, 1), f(top, 1), f(top-1, 1), api.OK}, {f(bottom, 1), f(bottom+2, 1), f(bottom+1, 1), api.OK},
		{f(top-1, 1), f(top, 1), api.Rat{}, api.ErrNone}, {f(bottom, 1), f(bottom+1, 1), api.Rat{}, api.ErrNone},
		{f(0, 1), f(1, top-1), f(1, top), api.OK}, {f(0, 1), f(1, top), api.Rat{}, api.ErrNone}, {f(-1, top-1), f(0, 1), f(-1, top), api.OK}, {f(-1, top), f(0, 1), api.Rat{}, api.ErrNone},
		{f(1, top), f(1, top-1), api.Rat{}, api.ErrNone}, {f(top-1, top), f(1, 1), api.Rat{}, api.ErrNone}, {f(top-2, top-1), f(1, 1), f(top-1, top), api.OK},
		{f(-third, 1), f(-half, 2), f(bottom, 3), api.OK}, {f(half, 2), f(third, 1), api.Rat{}, api.ErrNone},
		{f(1<<61, 1), f(1<<61+1, 1), f(1<<62+1, 2), api.OK}, {f(1<<62, 1), f(1<<62+1, 1), api.Rat{}, api.ErrNone}, {f(1<<62-1, 1), f(1<<62, 1), f(top, 2), api.OK},
		{f(-1<<62, 1), f(1-1<<62, 1), f(-top, 2), api.OK}, {f(1, 1), f(1, 1), api.Rat{}, api.ErrRange}, {f(1, 2), f(1, 3), api.Rat{}, api.ErrRange}, {f(top, 1), f(bottom, 1), api.Rat{}, api.ErrRange},
	} {
		if r, err := Between(x.a, x.b); r != x.want || err != x.err {
			t.Error(x, r, err)
		}
	}
	for _, bad := range wrong() {
		for _, a := range append([]api.Rat{f(0, 1), f(bottom, 1), f(top, 1)}, wrong()...) {
			if r, err := Between(a, bad); r != (api.Rat{}) || err != api.ErrForm {
				t.Error(a, bad, r, err)
			}
			if r, err := Between(bad, a); r != (api.Rat{}) || err != api.ErrForm {
				t.Error(bad, a, r, err)
			}
		}
	}
}

// TestP2_4BetweenNeighbours: between two that are neighbours (b.Num a.Den is a.Num b.Den and 1) the terms are the sums of theirs, and none has smaller ones: if these cannot be held, none can.
func TestP2_4BetweenNeighbours(t *testing.T) {
	low, high := f(0, 1), f(1, 1)
	held, none := 0, 0
	for i := 0; i < 400; i++ {
		want, wantErr := api.Rat{}, api.ErrNone
		num, den := uint64(low.Num)+uint64(high.Num), uint64(low.Den)+uint64(high.Den)
		if den <= top {
			want, wantErr = f(int64(num), int64(den)), api.OK
		}
		if r, err := Between(low, high); r != want || err != wantErr {
			t.Fatal(low, high, r, err)
		}
		if r, err := Between(f(-high.Num, high.Den), f(-low.Num, low.Den)); r != f(-want.Num, want.Den) || err != wantErr {
			t.Fatal(low, high, r, err)
		}
		switch {
		case wantErr != api.OK:
			none++
			low, high = f(0, 1), f(1, int64(i))
		case i%3 == 0 || i%7 == 2:
			held++
			low = want
		default:
			held++
			high = want
		}
	}
	if held == 0 || none == 0 {
		t.Error(held, none)
	}
}
