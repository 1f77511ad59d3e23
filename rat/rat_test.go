package rat

import (
	"math"
	"math/big"
	"slices"
	"testing"

	"gnomon/api"
)

const (
	top    = math.MaxInt64
	bottom = math.MinInt64
)

func f(num, den int64) api.Rat { return api.Rat{Num: num, Den: den} }

// wrong are fractions that are not right.
func wrong() []api.Rat {
	return []api.Rat{
		{}, f(1, 0), f(-1, 0), f(bottom, 0), f(0, 2), f(0, top), f(0, -1), f(1, -1), f(1, -2), f(3, bottom), f(bottom, bottom),
		f(2, 4), f(-2, 4), f(6, 3), f(top, top), f(-top, top), f(bottom, 2), f(bottom, 1<<62), f(1, bottom),
	}
}

// small are all right fractions with small terms.
func small(size int64) []api.Rat {
	var l []api.Rat
	for den := int64(1); den <= size; den++ {
		for num := -size; num <= size; num++ {
			if r := f(num, den); new(big.Int).GCD(nil, nil, big.NewInt(abs(num)), big.NewInt(den)).Int64() == 1 {
				l = append(l, r)
			}
		}
	}
	return l
}

func abs(n int64) int64 { return max(n, -n) }

// great are right fractions at the ends of what can be held, and some within.
func great() []api.Rat {
	l := []api.Rat{
		f(top, 1), f(top-1, 1), f(bottom, 1), f(bottom+1, 1), f(1, top), f(-1, top), f(1, top-1), f(-1, top-1), f(bottom, top), f(bottom, 3), f(bottom, top-2),
		f(top, 2), f(-top, 2), f(top, top-1), f(top-1, top), f(-top, top-1), f(1-top, top), f(top-2, 2), f(1<<62, 3), f(1, 1<<62), f(-1, 1<<62), f(3, 1<<62), f(1<<62, top), f(1<<31, 3), f(1, 1<<31), f(1<<32+1, 1<<32-1), f(top/3+1, 1<<40),
	}
	state := uint64(2026)
	draw := func() uint64 {
		state = state*6364136223846793005 + 1442695040888963407
		return state
	}
	next := func() int64 {
		length := draw() >> 58 // numbers of all lengths
		return int64(draw() >> (1 + length))
	}
	for len(l) < 90 {
		if num, den := next(), next(); den > 0 && new(big.Int).GCD(nil, nil, big.NewInt(num), big.NewInt(den)).Int64() == 1 {
			l = append(l, f(num, den), f(-num, den))
		}
	}
	return l
}

func all() []api.Rat { return append(small(5), great()...) }

// exactly is for fractions with a Den above 0.
func exactly(r api.Rat) *big.Rat { return big.NewRat(r.Num, r.Den) }

// held is a number as a fraction, or ErrOver.
func held(x *big.Rat) (api.Rat, api.Errno) {
	if !x.Num().IsInt64() || !x.Denom().IsInt64() {
		return api.Rat{}, api.ErrOver
	}
	return f(x.Num().Int64(), x.Denom().Int64()), api.OK
}

func TestP2_1New(t *testing.T) {
	edges := []int64{bottom, bottom + 1, bottom + 2, -1 << 62, -1 << 32, -12, -6, -4, -3, -2, -1, 0, 1, 2, 3, 4, 6, 12, 1 << 32, 1 << 62, top - 1, top}
	for _, num := range edges {
		for _, den := range edges {
			r, err := New(num, den)
			if den == 0 {
				if r != (api.Rat{}) || err != api.ErrZero {
					t.Error(num, den, r, err)
				}
				continue
			}
			want, wantErr := held(new(big.Rat).SetFrac(big.NewInt(num), big.NewInt(den)))
			if r != want || err != wantErr {
				t.Error(num, den, r, err, want, wantErr)
			}
		}
	}
	for _, x := range []struct {
		num, den int64
		want     api.Rat
		err      api.Errno
	}{
		{6, -4, f(-3, 2), api.OK}, {0, -7, f(0, 1), api.OK}, {5, 0, api.Rat{}, api.ErrZero}, {0, 0, api.Rat{}, api.ErrZero},
		{bottom, -1, api.Rat{}, api.ErrOver}, {bottom, 1, f(bottom, 1), api.OK}, {bottom, bottom, f(1, 1), api.OK}, {1, bottom, api.Rat{}, api.ErrOver},
		{2, bottom, f(-1, 1<<62), api.OK}, {bottom, -2, f(1<<62, 1), api.OK}, {bottom, -3, api.Rat{}, api.ErrOver}, {0, bottom, f(0, 1), api.OK},
	} {
		if r, err := New(x.num, x.den); r != x.want || err != x.err {
			t.Error(x, r, err)
		}
	}
}

func TestP2_1OfRight(t *testing.T) {
	for _, n := range []int{math.MinInt, -3, 0, 3, math.MaxInt} {
		if r := Of(n); r != f(int64(n), 1) || !Right(r) {
			t.Error(n, r)
		}
	}
	for _, r := range all() {
		if !Right(r) {
			t.Error(r)
		}
	}
	for _, r := range wrong() {
		if Right(r) {
			t.Error(r)
		}
	}
}

type call struct {
	name  string
	got   func(a, b api.Rat) (api.Rat, api.Errno)
	exact func(a, b *big.Rat) *big.Rat
}

func calls() []call {
	return []call{
		{"Add", Add, func(a, b *big.Rat) *big.Rat { return new(big.Rat).Add(a, b) }},
		{"Sub", Sub, func(a, b *big.Rat) *big.Rat { return new(big.Rat).Sub(a, b) }},
		{"Mul", Mul, func(a, b *big.Rat) *big.Rat { return new(big.Rat).Mul(a, b) }},
		{"Div", Div, func(a, b *big.Rat) *big.Rat { return new(big.Rat).Quo(a, b) }},
	}
}

func TestP2_2Reckon(t *testing.T) {
	for _, c := range calls() {
		over := 0
		for _, a := range all() {
			for _, b := range all() {
				want, wantErr := api.Rat{}, api.ErrZero
				if c.name != "Div" || b.Num != 0 {
					want, wantErr = held(c.exact(exactly(a), exactly(b)))
				}
				if r, err := c.got(a, b); r != want || err != wantErr {
					t.Error(c.name, a, b, r, err, want, wantErr)
				}
				if wantErr == api.ErrOver {
					over++
				}
			}
		}
		if over == 0 {
			t.Error(c.name, "never passes what can be held")
		}
	}
}

func TestP2_2Wrong(t *testing.T) {
	for _, c := range calls() {
		for _, bad := range wrong() {
			for _, a := range append([]api.Rat{f(0, 1), f(1, 2), f(top, 1), f(bottom, 1)}, wrong()...) {
				if r, err := c.got(a, bad); r != (api.Rat{}) || err != api.ErrForm {
					t.Error(c.name, a, bad, r, err)
				}
				if r, err := c.got(bad, a); r != (api.Rat{}) || err != api.ErrForm {
					t.Error(c.name, bad, a, r, err)
				}
			}
		}
	}
}

func TestP2_2Edges(t *testing.T) {
	for _, x := range []struct {
		name string
		a, b api.Rat
		want api.Rat
		err  api.Errno
	}{
		{"Add", f(1, 2), f(1, 3), f(5, 6), api.OK}, {"Add", f(1, 6), f(1, 3), f(1, 2), api.OK}, {"Add", f(1, 2), f(-1, 2), f(0, 1), api.OK},
		{"Add", f(top, 1), f(1, 1), api.Rat{}, api.ErrOver}, {"Add", f(bottom, 1), f(top, 1), f(-1, 1), api.OK}, {"Add", f(1, top), f(1, top-1), api.Rat{}, api.ErrOver},
		{"Sub", f(0, 1), f(bottom, 1), api.Rat{}, api.ErrOver}, {"Sub", f(-1, 1), f(bottom, 1), f(top, 1), api.OK}, {"Sub", f(bottom, 1), f(bottom, 1), f(0, 1), api.OK},
		{"Sub", f(bottom, 1), f(1, 1), api.Rat{}, api.ErrOver}, {"Sub", f(1-top, 1), f(2, 1), f(bottom, 1), api.OK},
		{"Mul", f(bottom, 1), f(-1, 1), api.Rat{}, api.ErrOver}, {"Mul", f(bottom, 1), f(1, 2), f(-1<<62, 1), api.OK}, {"Mul", f(1<<62, 1), f(-2, 1), f(bottom, 1), api.OK},
		{"Mul", f(1<<62, 1), f(2, 1), api.Rat{}, api.ErrOver}, {"Mul", f(top, top-1), f(top-1, top), f(1, 1), api.OK}, {"Mul", f(0, 1), f(bottom, 1), f(0, 1), api.OK},
		{"Div", f(1, 1), f(bottom, 1), api.Rat{}, api.ErrOver}, {"Div", f(2, 1), f(bottom, 1), f(-1, 1<<62), api.OK}, {"Div", f(bottom, 1), f(bottom, 1), f(1, 1), api.OK},
		{"Div", f(0, 1), f(-3, 2), f(0, 1), api.OK}, {"Div", f(0, 1), f(0, 1), api.Rat{}, api.ErrZero}, {"Div", f(2, 4), f(0, 1), api.Rat{}, api.ErrForm},
	} {
		for _, c := range calls() {
			if c.name != x.name {
				continue
			}
			if r, err := c.got(x.a, x.b); r != x.want || err != x.err {
				t.Error(x, r, err)
			}
		}
	}
}

func TestP2_2Sum(t *testing.T) {
	for _, x := range []struct {
		l    []api.Rat
		want api.Rat
		err  api.Errno
	}{
		{nil, f(0, 1), api.OK}, {[]api.Rat{}, f(0, 1), api.OK}, {[]api.Rat{f(-3, 2)}, f(-3, 2), api.OK},
		{[]api.Rat{f(1, 2), f(1, 2), f(1, 4)}, f(5, 4), api.OK}, {[]api.Rat{f(top, 1), f(-1, 1), f(1, 1)}, f(top, 1), api.OK},
		{[]api.Rat{f(2, 4)}, api.Rat{}, api.ErrForm}, {[]api.Rat{{}, f(1, 2)}, api.Rat{}, api.ErrForm}, {[]api.Rat{f(1, 2), f(1, 0)}, api.Rat{}, api.ErrForm},
		{[]api.Rat{f(top, 1), f(1, 1), f(-1, 1)}, api.Rat{}, api.ErrOver}, {[]api.Rat{f(top, 1), f(1, 1), {}}, api.Rat{}, api.ErrOver}, {[]api.Rat{f(top, 1), {}, f(1, 1)}, api.Rat{}, api.ErrForm},
	} {
		if r, err := Sum(x.l...); r != x.want || err != x.err {
			t.Error(x, r, err)
		}
	}
}

func TestP2_3Compare(t *testing.T) {
	for _, a := range all() {
		for _, b := range all() {
			if Compare(a, b) != exactly(a).Cmp(exactly(b)) {
				t.Error(a, b, Compare(a, b))
			}
		}
		for _, bad := range wrong() {
			if Compare(a, bad) != 0 || Compare(bad, a) != 0 || Compare(bad, bad) != 0 {
				t.Error(a, bad)
			}
		}
	}
}

func TestP2_3Choose(t *testing.T) {
	for _, l := range [][]api.Rat{small(4), great(), all(), {f(1, 2)}, {f(1, 3), f(1, 2)}, {f(1, 2), f(1, 3)}, {f(-1, 2), f(-1, 3), f(0, 1)}} {
		low, high := l[0], l[0]
		for _, r := range l {
			if exactly(r).Cmp(exactly(low)) < 0 {
				low = r
			}
			if exactly(r).Cmp(exactly(high)) > 0 {
				high = r
			}
		}
		if r, some := Least(l...); r != low || !some {
			t.Error("Least", l, r, some)
		}
		if r, some := Greatest(l...); r != high || !some {
			t.Error("Greatest", l, r, some)
		}
	}
	bad := [][]api.Rat{nil, {}}
	for _, w := range wrong() {
		bad = append(bad, []api.Rat{w}, []api.Rat{f(1, 2), w}, []api.Rat{w, f(1, 2)}, []api.Rat{f(bottom, 1), w, f(top, 1)})
	}
	for _, l := range bad {
		if r, some := Least(l...); r != (api.Rat{}) || some {
			t.Error("Least", l, r, some)
		}
		if r, some := Greatest(l...); r != (api.Rat{}) || some {
			t.Error("Greatest", l, r, some)
		}
	}
}

func TestP2_4Rounds(t *testing.T) {
	for _, r := range all() {
		floor := new(big.Int).Div(big.NewInt(r.Num), big.NewInt(r.Den)) // rounds down, as the Den is above 0
		ceil := floor.Int64()
		if r.Den > 1 {
			ceil++
		}
		frac := new(big.Rat).Sub(exactly(r), new(big.Rat).SetInt(floor))
		if Floor(r) != floor.Int64() || Ceil(r) != ceil || exactly(Frac(r)).Cmp(frac) != 0 || !Right(Frac(r)) {
			t.Error(r, Floor(r), Ceil(r), Frac(r))
		}
	}
	for _, x := range []struct {
		r           api.Rat
		floor, ceil int64
		frac        api.Rat
	}{
		{f(-3, 2), -2, -1, f(1, 2)}, {f(3, 2), 1, 2, f(1, 2)}, {f(4, 1), 4, 4, f(0, 1)}, {f(-4, 1), -4, -4, f(0, 1)}, {f(-1, 3), -1, 0, f(2, 3)},
		{f(bottom, 1), bottom, bottom, f(0, 1)}, {f(top, 1), top, top, f(0, 1)}, {f(bottom, top), -2, -1, f(top-1, top)}, {f(-1, top), -1, 0, f(top-1, top)}, {f(top-1, top), 0, 1, f(top-1, top)},
	} {
		if Floor(x.r) != x.floor || Ceil(x.r) != x.ceil || Frac(x.r) != x.frac {
			t.Error(x, Floor(x.r), Ceil(x.r), Frac(x.r))
		}
	}
	for _, r := range wrong() {
		if Floor(r) != 0 || Ceil(r) != 0 || Frac(r) != f(0, 1) {
			t.Error(r, Floor(r), Ceil(r), Frac(r))
		}
	}
}

func TestP2_5Texts(t *testing.T) {
	for r, want := range map[api.Rat]string{
		f(-3, 2): "-3/2", f(4, 1): "4", f(0, 1): "0", f(-1, 1): "-1", f(1, 10): "1/10",
		f(bottom, 1): "-9223372036854775808", f(bottom, top): "-9223372036854775808/9223372036854775807", f(1, top): "1/9223372036854775807",
	} {
		if s := Print(r); s != want {
			t.Error(r, s)
		}
		if got, err := Parse(want); got != r || err != api.OK {
			t.Error(want, got, err)
		}
	}
	for _, r := range wrong() {
		if s := Print(r); s != "" {
			t.Error(r, s)
		}
	}
}

func TestP2_5ParseWrong(t *testing.T) {
	for _, s := range []string{
		"", "/", "-", "-/2", "/2", "3/", "3//2", "1/2/3", "1/2/", "4/2", "04", "-0", "+4", "1/1", "4/1", "0/1", "0/2", "-0/1", "-2/4", "1/0", "0/0", "1/-2", "-1/-2",
		"1/02", "01/2", "1/+2", "+1/2", "1 /2", "1/ 2", " 1/2", "1/2 ", "1/2\n", "1.5", "1,5", "1/2x", "x", "0x1", "1_0", "1e2", "1\\2", "\u0661", "1\u20442", "inf",
		"9223372036854775808", "-9223372036854775809", "1/9223372036854775808", "1/18446744073709551617", "18446744073709551617/2", "9223372036854775808/3", "99999999999999999999999999999/2",
	} {
		if r, err := Parse(s); r != (api.Rat{}) || err != api.ErrForm {
			t.Errorf("%q: %v %d", s, r, err)
		}
	}
}

func TestP2_6BothWays(t *testing.T) {
	for _, a := range all() {
		for _, b := range all() {
			sum, err1 := Add(a, b)
			turned, err2 := Add(b, a)
			if sum != turned || err1 != err2 {
				t.Error("Add", a, b)
			}
			if back, err := Sub(sum, b); err1 == api.OK && (back != a || err != api.OK) {
				t.Error("Sub", a, b, back, err)
			}
			prod, err1 := Mul(a, b)
			turned, err2 = Mul(b, a)
			if prod != turned || err1 != err2 {
				t.Error("Mul", a, b)
			}
			if back, err := Div(prod, b); err1 == api.OK && b.Num != 0 && (back != a || err != api.OK) {
				t.Error("Div", a, b, back, err)
			}
		}
	}
}

func TestP2_7Order(t *testing.T) {
	l := all()
	for _, a := range l {
		for _, b := range l {
			ab := Compare(a, b)
			if ab != -Compare(b, a) || (ab == 0) != (a == b) {
				t.Error(a, b, ab)
			}
			if d, err := Sub(a, b); err == api.OK && (ab < 0) != (d.Num < 0) {
				t.Error(a, b, d)
			}
			for _, c := range l {
				if ab <= 0 && Compare(b, c) <= 0 && Compare(a, c) > 0 {
					t.Error(a, b, c)
				}
			}
		}
	}
}

func TestP2_8FloorAndFrac(t *testing.T) {
	for _, r := range all() {
		frac := Frac(r)
		if back, err := Add(f(Floor(r), 1), frac); back != r || err != api.OK {
			t.Error(r, back, err)
		}
		if frac.Num < 0 || frac.Num >= frac.Den {
			t.Error(r, frac)
		}
	}
}

func TestP2_9ThereAndBack(t *testing.T) {
	for _, r := range append(all(), small(30)...) {
		s := Print(r)
		if back, err := Parse(s); back != r || err != api.OK {
			t.Error(r, s, back, err)
		}
	}
}

// FuzzP2_9: what Parse takes is written again as it was read.
func FuzzP2_9(f *testing.F) {
	for _, s := range []string{"0", "-3/2", "4/2", "-0", "1/1", "-9223372036854775808", "1/9223372036854775808"} {
		f.Add(s)
	}
	f.Fuzz(func(t *testing.T, s string) {
		r, err := Parse(s)
		if err == api.OK && (Print(r) != s || !Right(r)) || err != api.OK && (err != api.ErrForm || r != api.Rat{}) {
			t.Errorf("%q: %v %d", s, r, err)
		}
	})
}

// TestP3StaysAsItIs: what is handed in does not change, nor does the room behind it.
func TestP3StaysAsItIs(t *testing.T) {
	l := []api.Rat{f(1, 2), f(-1, 3), f(2, 1), f(7, 5), {}}
	keep := slices.Clone(l)
	Sum(l[:3]...)
	Least(l[:3]...)
	Greatest(l[:3]...)
	if !slices.Equal(l, keep) {
		t.Error(l)
	}
}
