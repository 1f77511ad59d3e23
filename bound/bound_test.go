package bound

import (
	"math"
	"math/big"
	"slices"
	"strconv"
	"testing"

	"gnomon/api"
)

const (
	most    = api.Bound(2*api.MaxBound + 1) // at most MaxBound: the greatest finite bound
	least   = api.Bound(-2 * api.MaxBound)  // less than -MaxBound: the least one
	lowest  = api.Bound(math.MinInt32)
	highest = api.Inf - 1
)

// wrong are bounds that may not be.
func wrong() []api.Bound {
	return []api.Bound{lowest, lowest + 1, least - 2, least - 1, most + 1, most + 2, highest - 1, highest}
}

// finite are finite bounds that may be: small ones, and those at the ends.
func finite() []api.Bound {
	l := []api.Bound{least, least + 1, least + 2, least + 3, most - 3, most - 2, most - 1, most}
	for b := api.Bound(-13); b <= 13; b++ {
		l = append(l, b)
	}
	return l
}

func right() []api.Bound { return append(finite(), api.Inf) }

// value is a bound's number, and whether it may be reached, by the words of DOC.md: 2 v + 1, 2 v.
func value(b api.Bound) (v int64, reached bool) {
	reached = b%2 != 0
	if reached {
		b--
	}
	return int64(b) / 2, reached
}

// keeps is what Holds must tell of a finite bound that is right, and a Den above 0.
func keeps(b api.Bound, x *big.Rat) bool {
	v, reached := value(b)
	c := x.Cmp(new(big.Rat).SetInt64(v))
	return c < 0 || reached && c == 0
}

// near are fractions in quarters at the number of a bound, and some farther off.
func near(b api.Bound) []*big.Rat {
	v, _ := value(b)
	var l []*big.Rat
	for _, d := range []int64{-40, -4, -2, -1, 0, 1, 2, 4, 40} {
		l = append(l, big.NewRat(4*v+d, 4))
	}
	return l
}

func holds(b api.Bound, x *big.Rat) bool { return Holds(b, x.Num().Int64(), x.Denom().Int64()) }

// TestP1_1Make: AtMost, LessThan.
func TestP1_1Make(t *testing.T) {
	for _, v := range []int{-api.MaxBound, -api.MaxBound + 1, -3, -2, -1, 0, 1, 2, 3, api.MaxBound - 1, api.MaxBound} {
		if b, err := AtMost(v); b != api.Bound(2*v+1) || err != api.OK {
			t.Error("AtMost", v, b, err)
		}
		if b, err := LessThan(v); b != api.Bound(2*v) || err != api.OK {
			t.Error("LessThan", v, b, err)
		}
	}
	for _, v := range []int{math.MinInt, math.MinInt + 1, math.MinInt32, -1<<31 - 1, -1 << 32, -api.MaxBound - 1, api.MaxBound + 1, 1 << 30, math.MaxInt32, 1 << 31, 1 << 32, 1<<32 + 3, 1 << 62, 1<<62 + 1, math.MaxInt - 1, math.MaxInt} {
		if b, err := AtMost(v); b != 0 || err != api.ErrBound {
			t.Error("AtMost", v, b, err)
		}
		if b, err := LessThan(v); b != 0 || err != api.ErrBound {
			t.Error("LessThan", v, b, err)
		}
	}
}

// TestP1_1Read: Right, Value.
func TestP1_1Read(t *testing.T) {
	for _, b := range finite() {
		v, reached := value(b)
		if got, r, some := Value(b); int64(got) != v || r != reached || !some || !Right(b) {
			t.Error(b, got, r, some)
		}
	}
	for _, b := range wrong() {
		if v, r, some := Value(b); v != 0 || r || some || Right(b) {
			t.Error(b, v, r, some)
		}
	}
	if v, r, some := Value(api.Inf); v != 0 || r || some || !Right(api.Inf) {
		t.Error(v, r, some)
	}
}

// TestP1_2Add: also P1.8, as far as two are the same both ways.
func TestP1_2Add(t *testing.T) {
	for _, a := range right() {
		for _, b := range right() {
			want, wantErr := sumOf(a, b)
			if c, err := Add(a, b); c != want || err != wantErr {
				t.Error(a, b, c, err)
			}
		}
		for _, b := range wrong() {
			if c, err := Add(a, b); c != 0 || err != api.ErrForm {
				t.Error(a, b, c, err)
			}
			if c, err := Add(b, a); c != 0 || err != api.ErrForm {
				t.Error(b, a, c, err)
			}
		}
	}
	for _, x := range []struct {
		a, b, want api.Bound
		err        api.Errno
	}{
		{6, 7, 12, api.OK}, {7, 7, 13, api.OK}, {6, 6, 12, api.OK}, {7, -5, 1, api.OK}, {-4, -5, -10, api.OK},
		{most, 1, most, api.OK}, {most, 0, most - 1, api.OK}, {most, 3, 0, api.ErrBound}, {most, 2, 0, api.ErrBound},
		{most, most, 0, api.ErrBound}, {least, least, 0, api.ErrBound}, {least, -1, 0, api.ErrBound}, {least, 1, least, api.OK},
		{most, least, 0, api.OK}, {api.Inf, most, api.Inf, api.OK}, {api.Inf, api.Inf, api.Inf, api.OK}, {least, api.Inf, api.Inf, api.OK},
	} {
		if c, err := Add(x.a, x.b); c != x.want || err != x.err {
			t.Error(x, c, err)
		}
	}
}

// sumOf is the bound of a sum of right bounds, by the words of P1.2.
func sumOf(l ...api.Bound) (api.Bound, api.Errno) {
	if slices.Contains(l, api.Inf) {
		return api.Inf, api.OK
	}
	total, all := int64(0), true
	for _, b := range l {
		v, reached := value(b)
		total += v
		all = all && reached
	}
	if total < -api.MaxBound || total > api.MaxBound {
		return 0, api.ErrBound
	}
	if all {
		return api.Bound(2*total + 1), api.OK
	}
	return api.Bound(2 * total), api.OK
}

func TestP1_2Sum(t *testing.T) {
	for _, x := range []struct {
		l    []api.Bound
		want api.Bound
		err  api.Errno
	}{
		{nil, 1, api.OK}, {[]api.Bound{}, 1, api.OK}, {[]api.Bound{6}, 6, api.OK}, {[]api.Bound{most}, most, api.OK},
		{[]api.Bound{api.Inf}, api.Inf, api.OK}, {[]api.Bound{7, 6, 1}, 12, api.OK}, {[]api.Bound{7, 7, 1}, 13, api.OK},
		{[]api.Bound{most, most, least, least}, 0, api.OK},
		{[]api.Bound{most, most, least + 1, least + 1}, 1, api.OK},
		{[]api.Bound{most, most, most, least + 1, least + 1}, most, api.OK},
		{[]api.Bound{least, least, most, most, -2}, -2, api.OK},
		{[]api.Bound{most, most, least}, most - 1, api.OK},
		{[]api.Bound{most, most, least, 2}, 0, api.ErrBound},
		{[]api.Bound{most, 3}, 0, api.ErrBound}, {[]api.Bound{least, -1}, 0, api.ErrBound},
		{[]api.Bound{most, most, api.Inf}, api.Inf, api.OK}, {[]api.Bound{api.Inf, least, least}, api.Inf, api.OK},
		{[]api.Bound{api.Inf, most + 1}, 0, api.ErrForm}, {[]api.Bound{least - 1, api.Inf}, 0, api.ErrForm},
		{[]api.Bound{most, most, highest}, 0, api.ErrForm}, {[]api.Bound{lowest}, 0, api.ErrForm},
	} {
		if b, err := Sum(x.l...); b != x.want || err != x.err {
			t.Error(x, b, err)
		}
	}
	long := slices.Repeat([]api.Bound{most}, 1<<17)
	if b, err := Sum(long...); b != 0 || err != api.ErrBound {
		t.Error(b, err)
	}
	long = append(long, slices.Repeat([]api.Bound{least + 1}, 1<<17)...)
	if b, err := Sum(long...); b != 1 || err != api.OK {
		t.Error(b, err)
	}
}

func TestP1_2Not(t *testing.T) {
	for _, b := range finite() {
		v, reached := value(b)
		want := api.Bound(-2*v + 1)
		if reached {
			want--
		}
		if n, err := Not(b); n != want || err != api.OK {
			t.Error(b, n, err)
		}
	}
	for _, b := range wrong() {
		if n, err := Not(b); n != 0 || err != api.ErrForm {
			t.Error(b, n, err)
		}
	}
	if n, err := Not(api.Inf); n != 0 || err != api.ErrNone {
		t.Error(n, err)
	}
	for b, want := range map[api.Bound]api.Bound{7: -6, 6: -5, 1: 0, 0: 1, most: least, least: most, most - 1: least + 1, least + 1: most - 1} {
		if n, err := Not(b); n != want || err != api.OK {
			t.Error(b, n, err)
		}
	}
}

// TestP1_2Least: wrong bounds are numbers, too.
func TestP1_2Least(t *testing.T) {
	for _, x := range []struct {
		l    []api.Bound
		want api.Bound
	}{
		{nil, api.Inf}, {[]api.Bound{}, api.Inf}, {[]api.Bound{api.Inf, api.Inf}, api.Inf}, {[]api.Bound{7, -4, 3}, -4},
		{[]api.Bound{-4, 7}, -4}, {[]api.Bound{7, 6}, 6}, {[]api.Bound{api.Inf, most}, most}, {[]api.Bound{highest}, highest},
		{[]api.Bound{0, lowest, 5}, lowest}, {[]api.Bound{least, least - 1}, least - 1},
	} {
		if b := Least(x.l...); b != x.want {
			t.Error(x, b)
		}
	}
}

func TestP1_3Holds(t *testing.T) {
	for _, b := range finite() {
		for _, x := range near(b) {
			if holds(b, x) != keeps(b, x) {
				t.Error(b, x)
			}
		}
	}
	for _, x := range []struct {
		b        api.Bound
		num, den int64
		want     bool
	}{
		{6, 29, 10, true}, {6, 30, 10, false}, {7, 30, 10, true}, {7, 31, 10, false}, {7, 6, 2, true},
		{-5, -3, 1, true}, {-6, -3, 1, false}, {-6, -31, 10, true}, {-5, -29, 10, false}, {-5, -5, 2, false},
		{1, 0, 1, true}, {0, 0, 1, false}, {0, -1, math.MaxInt64, true}, {1, 1, math.MaxInt64, false},
		{3, math.MaxInt64, math.MaxInt64, true}, {2, math.MaxInt64, math.MaxInt64, false}, {2, math.MaxInt64 - 1, math.MaxInt64, true},
		{-1, math.MinInt64, math.MaxInt64, true}, {-1, -math.MaxInt64, math.MaxInt64, true}, {-2, -math.MaxInt64, math.MaxInt64, false},
		{most, math.MaxInt64, 1, false}, {least, math.MinInt64, 1, true}, {most, math.MaxInt64, 1 << 35, true}, {most - 1, math.MaxInt64, 1 << 35, true},
		{most, math.MaxInt64, 1<<35 - 1, false}, {least + 1, math.MinInt64, 1 << 35, true}, {least, math.MinInt64, 1 << 35, false},
		{least, math.MinInt64, 1<<35 - 1, true}, {most, math.MinInt64, math.MaxInt64, true},
	} {
		if Holds(x.b, x.num, x.den) != x.want {
			t.Error(x)
		}
	}
}

// TestP1_3Wrong: a wrong bound, a wrong Den; of Inf the answer named first is true.
func TestP1_3Wrong(t *testing.T) {
	for _, num := range []int64{math.MinInt64, -1, 0, 1, math.MaxInt64} {
		for _, den := range []int64{math.MinInt64, -1, 0, 1, 2, math.MaxInt64} {
			for _, b := range wrong() {
				if Holds(b, num, den) {
					t.Error(b, num, den)
				}
			}
			for _, b := range finite() {
				if den < 1 && Holds(b, num, den) {
					t.Error(b, num, den)
				}
			}
			if !Holds(api.Inf, num, den) {
				t.Error(num, den)
			}
		}
	}
}

func TestP1_4Print(t *testing.T) {
	for b, want := range map[api.Bound]string{
		-5: "<=-3", -6: "<-3", 7: "<=3", 6: "<3", 1: "<=0", 0: "<0", -1: "<=-1", -4: "<-2", api.Inf: "inf",
		most: "<=268435456", most - 1: "<268435456", least: "<-268435456", least + 1: "<=-268435456",
	} {
		if s := Print(b); s != want {
			t.Error(b, s)
		}
		if got, err := Parse(want); got != b || err != api.OK {
			t.Error(want, got, err)
		}
	}
	for _, b := range wrong() {
		if s := Print(b); s != "" {
			t.Error(b, s)
		}
	}
}

func TestP1_4ParseWrong(t *testing.T) {
	for _, s := range []string{
		"", "<", "<=", "=", "=3", "=<3", "<<3", "<==3", "<= 3", "< 3", " <3", "<3 ", "<3\n", "<3\x00", "3", "-3", ">3", ">=3",
		"<03", "<=03", "<00", "<=-0", "<-0", "<+3", "<=+3", "<-03", "<--3", "<-", "<=-", "<3.0", "<3x", "<0x3", "<1_0", "<1e3", "<\u0663",
		"Inf", "INF", "inf ", " inf", "in", "info", "<inf", "<=inf", "-inf", "+inf",
		"<268435457", "<=268435457", "<-268435457", "<=-268435457", "<2147483647", "<4294967299", "<9223372036854775807", "<9223372036854775808",
		"<-9223372036854775808", "<-9223372036854775809", "<18446744073709551619", "<=99999999999999999999999999999999999",
	} {
		if b, err := Parse(s); b != 0 || err != api.ErrForm {
			t.Errorf("%q: %d %d", s, b, err)
		}
	}
}

func TestP1_5SmallerIsStricter(t *testing.T) {
	for _, a := range right() {
		for _, b := range right() {
			for _, x := range near(a) {
				if a <= b && holds(a, x) && !holds(b, x) {
					t.Error(a, b, x)
				}
			}
		}
	}
	for b := api.Bound(-9); b < 9; b++ {
		v, _ := value(b + 1)
		between := big.NewRat(v, 1)
		if b%2 != 0 {
			between.Sub(between, big.NewRat(1, 3))
		}
		if holds(b, between) || !holds(b+1, between) {
			t.Error("not unlike", b, between)
		}
	}
}

func TestP1_6OppositeOfNot(t *testing.T) {
	for _, b := range finite() {
		n, err := Not(b)
		if err != api.OK {
			t.Error(b, err)
		}
		for _, x := range near(b) {
			if holds(n, new(big.Rat).Neg(x)) == holds(b, x) {
				t.Error(b, n, x)
			}
		}
		if back, err := Not(n); back != b || err != api.OK {
			t.Error(b, n, back)
		}
	}
}

func TestP1_7SumsKeepAdd(t *testing.T) {
	for _, a := range finite() {
		for _, b := range finite() {
			c, err := Add(a, b)
			if err != api.OK {
				continue
			}
			nearest := false
			v, reached := value(c)
			for _, x := range near(a) {
				for _, y := range near(b) {
					if !holds(a, x) || !holds(b, y) {
						continue
					}
					z := new(big.Rat).Add(x, y)
					nearest = nearest || z.Cmp(big.NewRat(v, 1)) == 0
					if !holds(c, z) {
						t.Error(a, b, c, x, y)
					}
				}
			}
			if nearest != reached {
				t.Error("reached", a, b, c)
			}
		}
	}
}

func TestP1_8Order(t *testing.T) {
	l := right()
	for _, a := range l {
		for _, b := range l {
			ab, err := Add(a, b)
			ba, err2 := Add(b, a)
			sum, err3 := Sum(a, b)
			if ab != ba || ab != sum || err != err2 || err != err3 {
				t.Error(a, b, ab, ba, sum)
			}
			for _, c := range l {
				checkOrder(t, a, b, c)
			}
		}
	}
}

func checkOrder(t *testing.T, a, b, c api.Bound) {
	ab, err1 := Add(a, b)
	bc, err2 := Add(b, c)
	if err1 != api.OK || err2 != api.OK {
		return
	}
	left, err1 := Add(ab, c)
	right, err2 := Add(a, bc)
	all, err3 := Sum(a, b, c)
	if left != right || left != all || err1 != err2 || err1 != err3 {
		t.Error(a, b, c, left, right, all)
	}
}

func TestP1_9ThereAndBack(t *testing.T) {
	for _, b := range right() {
		s := Print(b)
		if back, err := Parse(s); back != b || err != api.OK {
			t.Error(b, s, back, err)
		}
	}
	for v := -1200; v <= 1200; v++ {
		for _, sign := range []string{"<", "<="} {
			s := sign + strconv.Itoa(v)
			if b, err := Parse(s); err != api.OK || Print(b) != s {
				t.Error(s, b, err)
			}
		}
		a, _ := AtMost(v)
		l, _ := LessThan(v)
		if got, reached, some := Value(a); got != v || !reached || !some {
			t.Error(v, a, got, reached, some)
		}
		if got, reached, some := Value(l); got != v || reached || !some {
			t.Error(v, l, got, reached, some)
		}
	}
}

// FuzzP1_9: what Parse takes is written again as it was read.
func FuzzP1_9(f *testing.F) {
	for _, s := range []string{"inf", "<3", "<=-3", "<-0", "<+1", "<=268435456", "<268435457"} {
		f.Add(s)
	}
	f.Fuzz(func(t *testing.T, s string) {
		b, err := Parse(s)
		if err == api.OK && (Print(b) != s || !Right(b)) || err != api.OK && (err != api.ErrForm || b != 0) {
			t.Errorf("%q: %d %d", s, b, err)
		}
	})
}

// TestP3StaysAsItIs: what is handed in does not change, nor does the room behind it.
func TestP3StaysAsItIs(t *testing.T) {
	l := []api.Bound{7, -4, 3, 11, api.Inf}
	keep := slices.Clone(l)
	Sum(l[:3]...)
	Least(l[:3]...)
	if !slices.Equal(l, keep) {
		t.Error(l)
	}
}
