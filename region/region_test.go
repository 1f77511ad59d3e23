package region

import (
	"fmt"
	"math"
	"slices"
	"testing"

	"gnomon/api"
)

// TestP23Examples: those of the chapter.
func TestP23Examples(t *testing.T) {
	most := []int{2}
	r, err := Of(values(t, "0"), most)
	is(t, "0")(r, err)
	for _, want := range []string{"0+1", "1", "1+1", "2", "3", "3"} {
		r, err = Later(r, most)
		is(t, want)(r, err)
	}
	n := said(t, small)
	isTold(t, api.Reachable, 9, api.OK)(Reach(n, aim(t, n, "A.b")))
}

// TestP23_1Of: clocks at, just below and just above their constant, with and without a fraction, with the same and with unlike ones.
func TestP23_1Of(t *testing.T) {
	for _, w := range []struct {
		v    string
		most []int
		want string
	}{
		{"", nil, ""}, {"", []int{}, ""},
		{"0", []int{2}, "0"}, {"1/2", []int{2}, "0+1"}, {"1", []int{2}, "1"}, {"199/100", []int{2}, "1+1"}, {"2", []int{2}, "2"}, {"201/100", []int{2}, "3"}, {"3", []int{2}, "3"}, {"7/2", []int{2}, "3"}, {"99", []int{2}, "3"},
		// No constant is as 0.
		{"0", []int{0}, "0"}, {"1/2", []int{0}, "1"}, {"1", []int{0}, "1"}, {"5", []int{0}, "1"}, {"0", []int{-1}, "0"}, {"1/2", []int{-1}, "1"}, {"1", []int{-1}, "1"}, {"0 0", []int{-1, 3}, "0 0"}, {"1/3 1/3", []int{-1, 3}, "1 0+1"},
		{"1048576", []int{api.MaxConst}, "1048576"}, {"2097151/2", []int{api.MaxConst}, "1048575+1"}, {"2097153/2", []int{api.MaxConst}, "1048577"}, {"1048577", []int{api.MaxConst}, "1048577"}, {"9223372036854775807", []int{api.MaxConst}, "1048577"},
		// Fractions: the same, unlike ones, as many as clocks.
		{"1/2 1/2", []int{2, 2}, "0+1 0+1"}, {"1/2 3/2", []int{2, 2}, "0+1 1+1"}, {"1/2 1/3", []int{2, 2}, "0+2 0+1"}, {"1/3 1/2", []int{2, 2}, "0+1 0+2"}, {"3/2 1/3", []int{2, 2}, "1+2 0+1"}, {"1/3 1", []int{2, 2}, "0+1 1"}, {"1 1/3", []int{2, 2}, "1 0+1"},
		{"1/4 5/2 1/2 3 4/3 2", []int{5, 5, 5, 5, 5, 5}, "0+1 2+3 0+3 3 1+2 2"}, {"1/2 1/3 1/4 1/5 1/6 1/7 1/8 1/9", []int{1, 1, 1, 1, 1, 1, 1, 1}, "0+8 0+7 0+6 0+5 0+4 0+3 0+2 0+1"}, {"2/4611686018427387905 1/4611686018427387904", []int{1, 1}, "0+2 0+1"}, {"9223372036854775806/9223372036854775807 9223372036854775805/9223372036854775806", []int{1, 1}, "0+2 0+1"},
		// Those of clocks that are above do not count, wherever they lie.
		{"9/4 1/2", []int{2, 2}, "3 0+1"}, {"1/2 11/4", []int{2, 2}, "0+1 3"}, {"5/2 1/2 1/3", []int{2, 1, 1}, "3 0+2 0+1"}, {"5/4 7/3 1/2", []int{2, 2, 2}, "1+1 3 0+2"}, {"5/4 3/2 7/4", []int{1, 2, 2}, "2 1+1 1+2"}, {"1/9 1/2", []int{0, 1}, "1 0+1"},
		// At the constant a clock has no fraction.
		{"2 1/2", []int{2, 2}, "2 0+1"}, {"1 1/2", []int{1, 2}, "1 0+1"},
		// More clocks than a network may have are no fault here.
		{"1/2 0 1/3 1 1 1 1 1 1 9/8", []int{1, 1, 1, 1, 1, 1, 1, 1, 1, 2}, "0+3 0 0+2 1 1 1 1 1 1 1+1"},
	} {
		is(t, w.want)(Of(values(t, w.v), w.most))
	}
}

// TestP23_1OfErrors: each error, and that which is named first.
func TestP23_1OfErrors(t *testing.T) {
	for _, w := range []struct {
		v    string
		most []int
		err  api.Errno
	}{
		{"", []int{1}, api.ErrLong}, {"1", nil, api.ErrLong}, {"1 1", []int{1}, api.ErrLong}, {"1", []int{1, 1}, api.ErrLong}, {"1 1 1", []int{1, 1}, api.ErrLong}, {"1 1", []int{1, 1, 1}, api.ErrLong},
		{"1", []int{-2}, api.ErrConst}, {"1", []int{api.MaxConst + 1}, api.ErrConst}, {"1", []int{math.MinInt}, api.ErrConst}, {"1", []int{math.MaxInt}, api.ErrConst}, {"1", []int{1 << 32}, api.ErrConst}, {"1 1 1", []int{1, 1, -2}, api.ErrConst}, {"1 1", []int{-1, api.MaxConst + 1}, api.ErrConst},
		{"2/4", []int{1}, api.ErrRange}, {"0/2", []int{1}, api.ErrRange}, {"1/0", []int{1}, api.ErrRange}, {"0/0", []int{1}, api.ErrRange}, {"1/-2", []int{1}, api.ErrRange}, {"-1/-2", []int{1}, api.ErrRange}, {"-1", []int{1}, api.ErrRange}, {"-1/2", []int{1}, api.ErrRange}, {"-9223372036854775808", []int{1}, api.ErrRange}, {"1/-9223372036854775808", []int{1}, api.ErrRange}, {"1 1 -1/3", []int{1, 1, 1}, api.ErrRange}, {"8/4 1", []int{1, 1}, api.ErrRange},
		// Several.
		{"-1 1", []int{-2}, api.ErrLong}, {"2/4", []int{1, -2}, api.ErrLong}, {"-1", []int{-2}, api.ErrConst}, {"2/4 1", []int{1, api.MaxConst + 1}, api.ErrConst},
	} {
		isErr(t, w.err)(Of(values(t, w.v), w.most))
	}
}

// wrongRegions are regions that are not right, each for one reason, and their constants.
func wrongRegions(t testing.TB) []struct {
	r    Region
	most []int
} {
	type row = struct {
		r    Region
		most []int
	}
	l := []row{
		// Too few and too many numbers.
		{Region{}, []int{2}}, {Region{[]int{1}, nil}, nil}, {Region{nil, []int{0}}, nil}, {Region{[]int{1}, nil}, []int{2}}, {Region{nil, []int{0}}, []int{2}}, {read(t, "1 1"), []int{2}}, {read(t, "1"), []int{2, 2}}, {Region{[]int{1, 1}, []int{0}}, []int{2, 2}}, {Region{[]int{1}, []int{0, 0}}, []int{2, 2}}, {Region{[]int{1, 1}, []int{0, 0, 0}}, []int{2, 2}}, {Region{[]int{1, 1, 1}, []int{0, 0}}, []int{2, 2}},
	}
	for _, w := range []struct {
		text string
		most []int
	}{
		// A Whole outside.
		{"-1", []int{2}}, {"4", []int{2}}, {"2", []int{0}}, {"2", []int{-1}}, {"-1", []int{-1}}, {"1048578", []int{api.MaxConst}}, {"1 4 1", []int{3, 2, 3}}, {"1 1 -1", []int{3, 2, 3}}, {"9223372036854775807", []int{2}}, {"-9223372036854775808", []int{2}}, {"4294967297", []int{2}},
		// A Rank beside a Whole that may have none.
		{"2+1", []int{2}}, {"3+1", []int{2}}, {"0+1", []int{0}}, {"1+1", []int{0}}, {"0+1", []int{-1}}, {"1+1", []int{-1}}, {"0+1 2+1", []int{2, 2}}, {"0+2 2+1", []int{2, 2}}, {"3+2 0+1", []int{2, 2}}, {"1048576+1", []int{api.MaxConst}},
		// A rank left out.
		{"0+2", []int{2}}, {"1+3", []int{2}}, {"0+1 0+3", []int{2, 2}}, {"0+2 0+2", []int{2, 2}}, {"0+2 0+3", []int{2, 2}}, {"0+2 1", []int{2, 2}}, {"0+9223372036854775807", []int{2}}, {"0+1 0+2 0+4", []int{2, 2, 2}}, {"0+4294967297", []int{2}},
		// A rank below 0.
		{"0+-1", []int{2}}, {"1+-1", []int{2}}, {"2+-1", []int{2}}, {"3+-1", []int{2}}, {"0+1 0+-1", []int{2, 2}}, {"0+-1 0+-1", []int{2, 2}}, {"0+-9223372036854775808", []int{2}}, {"0+-1 0", []int{2, 2}},
	} {
		l = append(l, row{read(t, w.text), w.most})
	}
	for _, w := range l {
		if isRight(w.r, w.most) {
			t.Fatal(w)
		}
	}
	return l
}

// wrongConstants are lists with a number that may not be.
func wrongConstants() [][]int {
	return [][]int{{-2}, {api.MaxConst + 1}, {math.MinInt}, {math.MaxInt}, {1 << 32}, {2, -2}, {-2, 2}, {2, api.MaxConst + 1, 2}}
}

// TestP23_1Form: regions that are not right, for each call; and constants that may not be, ahead of that.
func TestP23_1Form(t *testing.T) {
	for _, w := range wrongRegions(t) {
		isErr(t, api.ErrForm)(Later(w.r, w.most))
		isNoPoint(t, api.ErrForm)(Point(w.r, w.most))
		for _, k := range []int{1, 2, 0, -1, math.MaxInt} {
			isErr(t, api.ErrForm)(Reset(w.r, w.most, k, 0))
			isErr(t, api.ErrForm)(Reset(w.r, w.most, k, -1))
			isHeld(t, false, api.ErrForm)(Holds(w.r, w.most, api.Guard{Clock: k, Cmp: api.Le}))
			isHeld(t, false, api.ErrForm)(Holds(w.r, w.most, api.Guard{Clock: k, Other: 1, N: -1}))
		}
		if len(w.most) == 0 {
			continue
		}
		for i := range w.most {
			for _, c := range []int{-2, api.MaxConst + 1, math.MinInt, math.MaxInt} {
				most := slices.Clone(w.most)
				most[i] = c
				refused(t, w.r, most)
			}
		}
	}
	for _, most := range wrongConstants() {
		zero := Region{make([]int, len(most)), make([]int, len(most))}
		refused(t, zero, most)
		refused(t, Region{}, most)
	}
}

// refused holds all calls of a region to ErrConst, whatever else is wrong.
func refused(t testing.TB, r Region, most []int) {
	t.Helper()
	isErr(t, api.ErrConst)(Later(r, most))
	isNoPoint(t, api.ErrConst)(Point(r, most))
	for _, k := range []int{1, 0} {
		isErr(t, api.ErrConst)(Reset(r, most, k, 0))
		isErr(t, api.ErrConst)(Reset(r, most, k, -1))
		isHeld(t, false, api.ErrConst)(Holds(r, most, api.Guard{Clock: k, Cmp: api.Ge}))
		isHeld(t, false, api.ErrConst)(Holds(r, most, api.Guard{Clock: k, Other: 1, N: -1}))
	}
}

// TestP23_1Ends: constants that just may be.
func TestP23_1Ends(t *testing.T) {
	most := []int{-1, 0, api.MaxConst}
	r := read(t, "0 0 1048575+1")
	is(t, "1 1 1048575+1")(Later(r, most))
	is(t, "1 1 1048576")(Later(read(t, "1 1 1048575+1"), most))
	is(t, "1 1 1048577")(Later(read(t, "1 1 1048576"), most))
	is(t, "1 1 1048577")(Later(read(t, "1 1 1048577"), most))
	is(t, "0 0 1048576")(Reset(r, most, 3, api.MaxConst))
	isPoint(t, "0 0 2097151/2")(Point(r, most))
	isPoint(t, "1 1 1048577")(Point(read(t, "1 1 1048577"), most))
	isHeld(t, true, api.OK)(Holds(r, most, api.Guard{Clock: 3, Cmp: api.Lt, N: api.MaxConst}))
	isHeld(t, true, api.OK)(Holds(read(t, "1 1 1048577"), most, api.Guard{Clock: 3, Cmp: api.Gt, N: api.MaxConst}))
	is(t, "")(Later(Region{}, nil))
	is(t, "")(Later(Region{[]int{}, []int{}}, []int{}))
	isPoint(t, "")(Point(Region{}, nil))
	isErr(t, api.ErrClock)(Reset(Region{}, nil, 1, 0))
	isHeld(t, false, api.ErrClock)(Holds(Region{}, nil, api.Guard{Clock: 1, Cmp: api.Le}))
}

// TestP23_1Later: the next region of each kind, up to the one that stays.
func TestP23_1Later(t *testing.T) {
	for _, w := range []struct {
		most []int
		rows []string
	}{
		{[]int{0}, []string{"0", "1", "1"}}, {[]int{-1}, []string{"0", "1", "1"}}, {[]int{1}, []string{"0", "0+1", "1", "2", "2"}},
		// Two at one number; one of them goes above, one stays below its constant.
		{[]int{1, 1}, []string{"0 0", "0+1 0+1", "1 1", "2 2", "2 2"}}, {[]int{1, 2}, []string{"0 0", "0+1 0+1", "1 1", "2 1+1", "2 2", "2 3", "2 3"}}, {[]int{0, 1}, []string{"0 0", "1 0+1", "1 1", "1 2", "1 2"}}, {[]int{-1, -1}, []string{"0 0", "1 1", "1 1"}},
		// One goes above, and the others keep their ranks, as none gets a fraction beside it.
		{[]int{1, 2}, []string{"1 0+1", "2 0+1", "2 1", "2 1+1", "2 2", "2 3"}}, {[]int{1, 2, 2}, []string{"1 0+1 0+2", "2 0+1 0+2", "2 0+1 1", "2 0+2 1+1", "2 1 1+1", "2 1+1 1+2", "2 1+1 2", "2 1+1 3", "2 2 3", "2 3 3", "2 3 3"}},
		// One gets the least fraction, and the others go up.
		{[]int{2, 2}, []string{"1 0+1", "1+1 0+2", "1+1 1", "1+2 1+1", "2 1+1", "3 1+1", "3 2", "3 3", "3 3"}},
		// At one time one goes above and another gets the least fraction.
		{[]int{1, 2, 2}, []string{"1 1 0+1", "2 1+1 0+2", "2 1+1 1", "2 1+2 1+1", "2 2 1+1", "2 3 1+1", "2 3 2", "2 3 3"}},
		// Several of the greatest rank, several of one below it.
		{[]int{2, 2, 2, 2}, []string{"0+2 1+1 1+2 0+1", "1 1+1 2 0+1", "1+1 1+2 3 0+2", "1+1 2 3 1", "1+2 3 3 1+1", "2 3 3 1+1", "3 3 3 1+1", "3 3 3 2", "3 3 3 3", "3 3 3 3"}},
		{[]int{api.MaxConst}, []string{"1048574+1", "1048575", "1048575+1", "1048576", "1048577", "1048577"}},
	} {
		r := read(t, w.rows[0])
		for _, want := range w.rows[1:] {
			next, err := Later(r, w.most)
			is(t, want)(next, err)
			r = next
		}
	}
}

// TestP23_1Reset: clocks that are above, the only ones of their rank, among several; to 0, to the constant, above it.
func TestP23_1Reset(t *testing.T) {
	for _, w := range []struct {
		r        string
		most     []int
		clock, n int
		want     string
	}{
		{"3", []int{2}, 1, 0, "0"}, {"3", []int{2}, 1, 2, "2"}, {"3", []int{2}, 1, 3, "3"}, {"3", []int{2}, 1, 4, "3"}, {"3", []int{2}, 1, api.MaxConst, "3"}, {"0+1", []int{2}, 1, 0, "0"}, {"0+1", []int{2}, 1, 1, "1"}, {"0+1", []int{2}, 1, 2, "2"}, {"0+1", []int{2}, 1, 99, "3"}, {"1", []int{2}, 1, 1, "1"},
		{"0", []int{-1}, 1, 0, "0"}, {"1", []int{-1}, 1, 0, "0"}, {"0", []int{-1}, 1, 1, "1"}, {"0", []int{0}, 1, 7, "1"}, {"0", []int{api.MaxConst}, 1, api.MaxConst, "1048576"},
		// The only one of its rank: the greater ranks go down.
		{"0+1 1+2 0+3", []int{2, 2, 2}, 1, 0, "0 1+1 0+2"}, {"0+1 1+2 0+3", []int{2, 2, 2}, 2, 1, "0+1 1 0+2"}, {"0+1 1+2 0+3", []int{2, 2, 2}, 3, 2, "0+1 1+2 2"}, {"0+1 1+2 0+3", []int{2, 2, 2}, 1, 3, "3 1+1 0+2"}, {"0+1 1+2 0+3", []int{2, 2, 2}, 2, 99, "0+1 3 0+2"},
		// One among several: all others stay.
		{"0+1 1+1 0+2", []int{2, 2, 2}, 1, 0, "0 1+1 0+2"}, {"0+1 1+1 0+2", []int{2, 2, 2}, 2, 9, "0+1 3 0+2"}, {"0+2 1+1 0+2", []int{2, 2, 2}, 3, 1, "0+2 1+1 1"},
		// One that has no fraction, one that is above: all others stay.
		{"1 1+1 0+2", []int{2, 2, 2}, 1, 0, "0 1+1 0+2"}, {"3 1+1 0+2", []int{2, 2, 2}, 1, 2, "2 1+1 0+2"}, {"3 3 3", []int{2, 2, 2}, 2, 1, "3 1 3"}, {"2 1+1 3", []int{2, 2, 2}, 3, 3, "2 1+1 3"},
	} {
		is(t, w.want)(Reset(read(t, w.r), w.most, w.clock, w.n))
	}
}

// TestP23_1ResetErrors: clocks that are none, then numbers that may not be.
func TestP23_1ResetErrors(t *testing.T) {
	r, most := read(t, "0+1 3"), []int{2, 2}
	for _, clock := range []int{0, -1, 3, 9, math.MaxInt, math.MinInt, 1<<32 + 1} {
		for _, n := range []int{0, 2, -1, api.MaxConst + 1} {
			isErr(t, api.ErrClock)(Reset(r, most, clock, n))
		}
	}
	for _, n := range []int{-1, api.MaxConst + 1, math.MaxInt, math.MinInt, 1 << 32} {
		isErr(t, api.ErrRange)(Reset(r, most, 1, n))
		isErr(t, api.ErrRange)(Reset(r, most, 2, n))
	}
}

// TestP23_1Holds: each comparison at, below and above a clock's Whole, with and without a fraction.
func TestP23_1Holds(t *testing.T) {
	for _, w := range []struct {
		r    string
		n    int
		side int
	}{
		{"0", 0, 0}, {"0", 1, -1}, {"0", 3, -1}, {"0+1", 0, 1}, {"0+1", 1, -1}, {"0+1", 3, -1}, {"1", 0, 1}, {"1", 1, 0}, {"1", 2, -1}, {"1+1", 0, 1}, {"1+1", 1, 1}, {"1+1", 2, -1}, {"3", 2, 1}, {"3", 3, 0}, {"2+1", 3, -1}, {"4", 0, 1}, {"4", 3, 1},
	} {
		for c, want := range map[api.Cmp]bool{api.Lt: w.side < 0, api.Le: w.side <= 0, api.Eq: w.side == 0, api.Ge: w.side >= 0, api.Gt: w.side > 0} {
			isHeld(t, want, api.OK)(Holds(read(t, w.r), []int{3}, api.Guard{Clock: 1, Cmp: c, N: w.n}))
			// Of another clock than the first, and beside greater ranks.
			text := "0+1 1 " + w.r + " 2+2"
			if w.r[len(w.r)-1:] == "1" && len(w.r) > 1 {
				text = "0+2 1 " + w.r + " 2+1"
			}
			isHeld(t, want, api.OK)(Holds(read(t, text), []int{9, 9, 3, 9}, api.Guard{Clock: 3, Cmp: c, N: w.n}))
		}
	}
	// No constant is as 0.
	for r, side := range map[string]int{"0": 0, "1": 1} {
		for c, want := range map[api.Cmp]bool{api.Lt: false, api.Le: side == 0, api.Eq: side == 0, api.Ge: true, api.Gt: side > 0} {
			isHeld(t, want, api.OK)(Holds(read(t, r), []int{-1}, api.Guard{Clock: 1, Cmp: c}))
			isHeld(t, want, api.OK)(Holds(read(t, r), []int{0}, api.Guard{Clock: 1, Cmp: c}))
		}
	}
	// A rank is none of the numbers that a clock is held against.
	isHeld(t, true, api.OK)(Holds(read(t, "0+1 0+2 0+3"), []int{9, 9, 9}, api.Guard{Clock: 3, Cmp: api.Lt, N: 1}))
}

// TestP23_1HoldsErrors: each error, and that which is named first.
func TestP23_1HoldsErrors(t *testing.T) {
	r, most := read(t, "0+1 3"), []int{5, 2}
	for _, w := range []struct {
		g   api.Guard
		err api.Errno
	}{
		{api.Guard{Clock: 1, Other: 2, Cmp: api.Lt, N: 1}, api.ErrDiagonal}, {api.Guard{Clock: 1, Other: 1, Cmp: api.Lt, N: 1}, api.ErrDiagonal}, {api.Guard{Clock: 1, Other: -1, Cmp: api.Lt, N: 1}, api.ErrDiagonal}, {api.Guard{Clock: 1, Other: 99, Cmp: api.Lt, N: 1}, api.ErrDiagonal}, {api.Guard{Other: 1, Cmp: 9, N: -1}, api.ErrDiagonal}, {api.Guard{Clock: 3, Other: math.MinInt, Cmp: api.Gt}, api.ErrDiagonal},
		{api.Guard{Cmp: api.Lt, N: 1}, api.ErrClock}, {api.Guard{Clock: -1, Cmp: api.Lt, N: 1}, api.ErrClock}, {api.Guard{Clock: 3, Cmp: api.Lt, N: 1}, api.ErrClock}, {api.Guard{Clock: math.MaxInt, Cmp: api.Lt, N: 1}, api.ErrClock}, {api.Guard{Clock: math.MinInt, Cmp: api.Lt, N: 1}, api.ErrClock}, {api.Guard{Clock: 3, Cmp: 0, N: -1}, api.ErrClock}, {api.Guard{Clock: 0, Cmp: 6, N: 6}, api.ErrClock},
		{api.Guard{Clock: 1, Cmp: api.Lt, N: 6}, api.ErrRange}, {api.Guard{Clock: 2, Cmp: api.Gt, N: 3}, api.ErrRange}, {api.Guard{Clock: 2, Cmp: api.Ge, N: 5}, api.ErrRange}, {api.Guard{Clock: 1, Cmp: api.Ge, N: -1}, api.ErrRange}, {api.Guard{Clock: 1, Cmp: api.Ge, N: math.MinInt}, api.ErrRange}, {api.Guard{Clock: 1, Cmp: api.Lt, N: math.MaxInt}, api.ErrRange}, {api.Guard{Clock: 1, N: 1}, api.ErrRange}, {api.Guard{Clock: 1, Cmp: 6, N: 1}, api.ErrRange}, {api.Guard{Clock: 2, Cmp: 255, N: 1}, api.ErrRange}, {api.Guard{Clock: 2, Cmp: 0, N: 99}, api.ErrRange},
	} {
		isHeld(t, false, w.err)(Holds(r, most, w.g))
	}
	isHeld(t, false, api.ErrRange)(Holds(read(t, "0"), []int{-1}, api.Guard{Clock: 1, Cmp: api.Le, N: 1}))
	isHeld(t, false, api.ErrRange)(Holds(read(t, "0"), []int{-1}, api.Guard{Clock: 1, Cmp: api.Ge, N: -1}))
	isHeld(t, false, api.ErrRange)(Holds(read(t, "0"), []int{api.MaxConst}, api.Guard{Clock: 1, Cmp: api.Le, N: api.MaxConst + 1}))
}

// TestP23_1Point: points of regions, in lowest terms.
func TestP23_1Point(t *testing.T) {
	for _, w := range []struct {
		r    string
		most []int
		want string
	}{
		{"0", []int{2}, "0"}, {"0+1", []int{2}, "1/2"}, {"1+1", []int{2}, "3/2"}, {"2", []int{2}, "2"}, {"3", []int{2}, "3"}, {"0", []int{-1}, "0"}, {"1", []int{-1}, "1"}, {"1", []int{0}, "1"},
		{"0+1 1+2", []int{2, 2}, "1/3 5/3"}, {"0+1 1+1", []int{2, 2}, "1/2 3/2"}, {"0+2 1+1 0+3", []int{2, 2, 2}, "1/2 5/4 3/4"}, {"3 1+1 2", []int{2, 2, 2}, "3 3/2 2"}, {"0+1 0+2 0+3 0+4 0+5", []int{1, 1, 1, 1, 1}, "1/6 1/3 1/2 2/3 5/6"}, {"1048575+1 0+2", []int{api.MaxConst, 1}, "3145726/3 2/3"},
		{"0+1 0+2 0+3 0+4 0+5 0+6 0+7 0+8 0+9", []int{1, 1, 1, 1, 1, 1, 1, 1, 1}, "1/10 1/5 3/10 2/5 1/2 3/5 7/10 4/5 9/10"},
	} {
		isPoint(t, w.want)(Point(read(t, w.r), w.most))
	}
}

// TestP23_2Errors: networks and goals that are not right.
func TestP23_2Errors(t *testing.T) {
	for _, w := range wrongNets(t) {
		for _, g := range []api.Goal{nil, {{}}, make(api.Goal, api.MaxGoal+1), {{Locs: []api.At{{Auto: 9}}}}} {
			isTold(t, api.Unknown, 0, w.err)(Reach(w.n, g))
		}
	}
	for _, w := range wrongGoals(t) {
		isTold(t, api.Unknown, 0, w.err)(Reach(w.n, w.g))
	}
}

// TestP23_2Looked: the verdict, and how many were looked at.
func TestP23_2Looked(t *testing.T) {
	for _, w := range []struct {
		net, goal string
		verdict   api.Verdict
		looked    int
	}{
		// DOC.md's network: 11 regions at a, the move from the seventh on behind that of time; all 12 at b.
		{small, "true", api.Reachable, 1}, {small, "A.a", api.Reachable, 1}, {small, "A.b", api.Reachable, 9}, {small, "A.a && x > 5", api.Unreachable, 23}, {small, "", api.Unreachable, 23}, {small, "A.a && x >= 5", api.Reachable, 14}, {small, "A.b && x > 7", api.Reachable, 27}, {small, "x > 2 && A.a", api.Reachable, 6}, {small, "A.b && x < 1 && x > 0", api.Reachable, 11}, {small, "x >= 3", api.Reachable, 7}, {small, "A.b && x > 7 || x >= 3", api.Reachable, 7},
		{"clock x; auto A { loc a inv x <= 5; loc b; edge a -> b when x > 5 do x := 0; }", "A.b", api.Unreachable, 11},
		// The first state does not keep its invariants: there is no node, and no goal is met.
		{"clock x; auto A { loc a inv x > 0; loc b; edge a -> b; }", "true", api.Unreachable, 0}, {"clock x; auto A { loc a; } auto B { loc a inv x >= 1; }", "A.a", api.Unreachable, 0}, {"clock x; auto A { loc a inv x < 0; }", "", api.Unreachable, 0}, {"clock x; auto A { loc a inv x == 0; }", "", api.Unreachable, 1},
		// Without clocks; without anything that one is held against.
		{"auto A { loc a; loc b; loc d; edge a -> b; edge b -> d; edge d -> a; }", "A.d", api.Reachable, 3}, {"auto A { loc a; loc b; loc d; edge a -> b; edge d -> a; }", "A.d", api.Unreachable, 2}, {"auto A { loc a; }", "true", api.Reachable, 1}, {"auto A { loc a; }", "", api.Unreachable, 1}, {"clock x; auto A { loc a; }", "", api.Unreachable, 2}, {"clock x, y; auto A { loc a; loc b; edge a -> b do x := 3; }", "", api.Unreachable, 4}, {"clock x; auto A { loc a; }", "x > 0", api.Reachable, 2}, {"clock x; auto A { loc a; }", "x < 0", api.Unreachable, 2}, {"clock x; auto A { loc a; }", "x >= 1", api.Reachable, 3},
		// Places in which no time passes.
		{"clock x; auto A { loc a urgent; }", "x > 0", api.Unreachable, 1}, {"clock x; auto A { loc a committed; }", "x > 0", api.Unreachable, 1}, {"clock x; auto A { loc a; } auto B { loc a urgent; }", "x > 0", api.Unreachable, 1}, {"clock x; auto A { loc a urgent; loc b; edge a -> b; }", "x > 0 && A.b", api.Reachable, 3}, {"clock x; auto A { loc a; } auto B { loc a committed; loc b; edge a -> b; } auto C { loc a; loc b; edge a -> b; }", "B.a && C.b", api.Unreachable, 5}, {"clock x; auto A { loc a committed; } auto B { loc a; loc b; edge a -> b; }", "B.b", api.Unreachable, 1},
		// Time is ahead of moves, moves are in their order.
		{"clock x; auto A { loc a; loc b; edge a -> b; }", "x > 0 && A.a", api.Reachable, 2}, {"clock x; auto A { loc a; loc b; edge a -> b; }", "A.b", api.Reachable, 3}, {"auto A { loc a; loc b; loc d; edge a -> d; edge a -> b; }", "A.d", api.Reachable, 2}, {"auto A { loc a; loc b; loc d; edge a -> d; edge a -> b; }", "A.b", api.Reachable, 3},
		// Channels: two of three that move; the sender's sets first.
		{"chan c; auto A { loc a; loc b; edge a -> b sync c!; } auto B { loc a; loc b; edge a -> b sync c?; } auto C { loc a; loc b; edge a -> b sync c?; }", "C.b", api.Reachable, 3}, {"chan c; auto A { loc a; loc b; edge a -> b sync c!; } auto B { loc a; loc b; edge a -> b sync c?; } auto C { loc a; loc b; edge a -> b sync c?; }", "B.b && C.b", api.Unreachable, 3}, {"chan c; auto A { loc a; loc b; edge a -> b sync c!; }", "A.b", api.Unreachable, 1},
		{"clock x; chan c; auto A { loc a inv x <= 0; loc b urgent; edge a -> b sync c? do x := 1; } auto B { loc a; loc b; edge a -> b sync c! do x := 2; }", "A.b && x == 1", api.Reachable, 2}, {"clock x; chan c; auto A { loc a inv x <= 0; loc b urgent; edge a -> b sync c? do x := 1; } auto B { loc a; loc b; edge a -> b sync c! do x := 2; }", "A.b && x == 2", api.Unreachable, 2}, {"clock x; chan c; auto A { loc a; loc b; edge a -> b when x < 1 sync c!; } auto B { loc a; loc b; edge a -> b when x > 1 sync c?; }", "A.b", api.Unreachable, 4}, {"clock x; chan c; auto A { loc a; loc b; edge a -> b when x <= 1 sync c!; } auto B { loc a; loc b; edge a -> b when x >= 1 sync c?; }", "A.b", api.Reachable, 5},
		// Variables: as far as their bounds; tests of edges and of goals; a test without a value does not hold.
		{"int n in 0 .. 3 := 0; auto A { loc a; edge a -> a do n := n + 1; }", "", api.Unreachable, 4}, {"int n in 0 .. 3 := 0; auto A { loc a; edge a -> a do n := n + 1; }", "n == 2", api.Reachable, 3}, {"int n in 0 .. 3 := 0; auto A { loc a; edge a -> a when n < 2 do n := n + 1; }", "n == 3", api.Unreachable, 3}, {"int n in 0 .. 3 := 3; auto A { loc a; edge a -> a do n := n - 1; }", "n == 0 && A.a", api.Reachable, 4}, {"int n in 0 .. 1048576 := 1048576; auto A { loc a; }", "n * n * n * n > 3", api.Unreachable, 1}, {"int n in 0 .. 1048576 := 1048576; auto A { loc a; }", "n * n * n * n > 3 || n * n * n > 3", api.Reachable, 1},
		// A set above all that a clock is held against.
		{"clock x; auto A { loc a inv x <= 0; loc b; edge a -> b do x := 9; }", "x > 3 && A.b", api.Reachable, 2}, {"clock x; auto A { loc a inv x <= 0; loc b; edge a -> b do x := 3; }", "x > 3 && A.b", api.Reachable, 3}, {"clock x; auto A { loc a inv x <= 0; loc b inv x <= 3; edge a -> b do x := 4; edge a -> b do x := 3; }", "A.b", api.Reachable, 2},
		// Invariants that hold behind a move, and not behind it.
		{"clock x; auto A { loc a; loc b inv x >= 2; edge a -> b; }", "A.b", api.Reachable, 7}, {"clock x; auto A { loc a; loc b inv x < 0; edge a -> b; }", "A.b", api.Unreachable, 2}, {"clock x; auto A { loc a inv x <= 1; loc b inv x > 1; edge a -> b; }", "A.b", api.Unreachable, 3},
		// Fractions in order: y is set later than x, so it stays behind.
		{"clock x, y; auto A { loc a; loc b; edge a -> b when x > 0 && x < 1 do y := 0; }", "A.b && x == 1 && y > 0 && y < 1", api.Reachable, 7}, {"clock x, y; auto A { loc a; loc b; edge a -> b when x > 0 && x < 1 do y := 0; }", "A.b && y == 1 && x <= 1", api.Unreachable, 10},
	} {
		n := said(t, w.net)
		if isTold(t, w.verdict, w.looked, api.OK)(Reach(n, aim(t, n, w.goal))); t.Failed() {
			t.Error(w)
		}
	}
}

// TestP23_2Full: as many as may be kept, and one more; with and without the goal among those that are.
func TestP23_2Full(t *testing.T) {
	counter := "int n in 0 .. %d := 0; auto A { loc a; edge a -> a do n := n + 1; }"
	// Node by node as the numbers are: 0 leads to 1 and 2, 1 to 3 and 4.
	heap := "int n in 0 .. 1048576 := 0; auto A { loc a; edge a -> a do n := 2 * n + 1; edge a -> a do n := 2 * n + 2; }"
	ruler := "clock x; auto A { loc a; edge a -> a when x > %d; }"
	top := api.MaxRegions - 1
	for _, w := range []struct {
		net, goal string
		verdict   api.Verdict
		looked    int
		err       api.Errno
	}{
		{fmt.Sprintf(counter, top), "", api.Unreachable, api.MaxRegions, api.OK}, {fmt.Sprintf(counter, top), "n == 19999", api.Reachable, api.MaxRegions, api.OK}, {fmt.Sprintf(counter, top+1), "", api.Unknown, 0, api.ErrFull}, {fmt.Sprintf(counter, top+1), "n == 19999", api.Reachable, api.MaxRegions, api.OK}, {fmt.Sprintf(counter, top+1), "n == 20000", api.Unknown, 0, api.ErrFull}, {fmt.Sprintf(counter, top+1), "n == 5", api.Reachable, 6, api.OK},
		// The goal is among those that are kept, and looked at behind some were passed over.
		{heap, "n == 15000", api.Reachable, 15001, api.OK}, {heap, "n == 19999", api.Reachable, api.MaxRegions, api.OK}, {heap, "n == 20000", api.Unknown, 0, api.ErrFull}, {heap, "n == 2 || n == 1", api.Reachable, 2, api.OK},
		// Regions of one state: two of each number, and that above.
		{fmt.Sprintf(ruler, 9999), "", api.Unreachable, api.MaxRegions, api.OK}, {fmt.Sprintf(ruler, 10000), "", api.Unknown, 0, api.ErrFull}, {fmt.Sprintf(ruler, 10000), "x > 9998", api.Reachable, api.MaxRegions - 2, api.OK}, {fmt.Sprintf(ruler, 10000), "x > 9999", api.Reachable, api.MaxRegions, api.OK}, {fmt.Sprintf(ruler, 10000), "x > 10000", api.Unknown, 0, api.ErrFull}, {fmt.Sprintf(ruler, api.MaxConst), "x > 9", api.Reachable, 20, api.OK},
	} {
		n := said(t, w.net)
		isTold(t, w.verdict, w.looked, w.err)(Reach(n, aim(t, n, w.goal)))
	}
}

// TestP23_2Most: as many clocks and automata as may be, with numbers as great as may be.
func TestP23_2Most(t *testing.T) {
	text := "clock a, b, c, d, e, f, g, h;"
	for i := range api.MaxParts {
		text += fmt.Sprintf("auto P%d { loc l; loc m; edge l -> m when %c > 0 do %c := 1048576; }", i, 'a'+i, 'a'+(i+1)%api.MaxClocks)
	}
	n := said(t, text)
	isTold(t, api.Reachable, 3, api.OK)(Reach(n, aim(t, n, "P0.m && b > 0")))
	isTold(t, api.Unknown, 0, api.ErrFull)(Reach(n, aim(t, n, "P0.m && a <= 0 && b < 1048576 && h >= 1048576")))
}

// spare is a region whose lists have room behind their end, with something in it.
func spare(r Region) Region {
	return Region{append(slices.Clone(r.Whole), 7, 7)[:len(r.Whole)], append(slices.Clone(r.Rank), 7, 7)[:len(r.Rank)]}
}

// TestP3Lists: what is handed in stays as it is, spare room too; what is answered is the caller's.
func TestP3Lists(t *testing.T) {
	r := spare(read(t, "1 0+1 3 0+2 2"))
	most := append([]int{2, 2, 2, 2, 2}, 7, 7)[:5]
	v := append(values(t, "1 1/3 3 2/3 2"), api.Rat{Num: 7}, api.Rat{Num: 7})[:5]
	n := said(t, rich)
	g := aim(t, n, richGoal)
	told := func() string {
		return fmt.Sprint(r.Whole[:cap(r.Whole)], r.Rank[:cap(r.Rank)], most[:cap(most)], v[:cap(v)], n, g)
	}
	before := told()
	var answers []any
	for range 2 {
		a, _ := Of(v, most)
		b, _ := Later(r, most)
		c, _ := Later(read(t, "1+1 0+1 3 0+2 3"), most)
		d, _ := Later(read(t, "3 3 3 3 3"), most)
		for _, clock := range []int{1, 2, 3, 5} {
			x, _ := Reset(r, most, clock, 1)
			answers = append(answers, x)
		}
		p, _ := Point(r, most)
		Holds(r, most, api.Guard{Clock: 2, Cmp: api.Lt, N: 1})
		Reach(n, g)
		answers = append(answers, a, b, c, d, p)
	}
	if shared(append(answers, r, most, v, n, g)...) {
		t.Error("shared")
	}
	for _, a := range answers {
		switch x := a.(type) {
		case Region:
			if len(x.Whole) != 5 || len(x.Rank) != 5 {
				t.Error(x)
			}
			clear(x.Whole[:cap(x.Whole)])
			clear(x.Rank[:cap(x.Rank)])
		case []api.Rat:
			clear(x[:cap(x)])
		}
	}
	if told() != before {
		t.Error("changed")
	}
	// That which stays is new, too.
	stays := read(t, "3 3")
	if next, _ := Later(stays, []int{2, 2}); shared(next, stays) {
		t.Error("shared")
	}
}

// TestP6Again: nothing is kept between calls.
func TestP6Again(t *testing.T) {
	n, other := said(t, rich), said(t, small)
	v, looked, err := Reach(n, aim(t, n, richGoal))
	isTold(t, api.Reachable, 9, api.OK)(Reach(other, aim(t, other, "A.b")))
	isTold(t, v, looked, err)(Reach(n, aim(t, n, richGoal)))
	isTold(t, api.Reachable, 9, api.OK)(Reach(other, aim(t, other, "A.b")))
}

// TestP1Any: nothing panics, whatever it is given, and beside an error there is nothing.
func TestP1Any(t *testing.T) {
	r := source(1)
	any := func() int { return wild[r.IntN(len(wild))] }
	some := func(k int) []int {
		var l []int
		for range k {
			l = append(l, any()*r.IntN(2))
		}
		return l
	}
	counts := map[api.Errno]int{}
	look := func(x Region, err api.Errno, most []int) {
		if counts[err]++; err == api.OK && !isRight(x, most) || err != api.OK && (len(x.Whole) > 0 || len(x.Rank) > 0) {
			t.Fatal(x, err, most)
		}
	}
	for range 30000 {
		k := r.IntN(4)
		most := some(k + r.IntN(10)/9)
		if r.IntN(2) == 0 {
			most = slices.Repeat([]int{r.IntN(4)}, k)
		}
		x := Region{some(k), some(k + r.IntN(10)/9)}
		var v []api.Rat
		for range k {
			v = append(v, api.Rat{Num: int64(any()), Den: []int64{1, 1, 1, int64(any())}[r.IntN(4)]})
		}
		of, err := Of(v, most)
		look(of, err, most)
		if err == api.OK && r.IntN(2) == 0 {
			x = of
		}
		next, err := Later(x, most)
		look(next, err, most)
		set, err := Reset(x, most, any(), any())
		look(set, err, most)
		held, err := Holds(x, most, api.Guard{Clock: any(), Other: any() * r.IntN(2), Cmp: api.Cmp(any()), N: any()})
		if counts[err]++; err != api.OK && held {
			t.Fatal(err)
		}
		if at, err := Point(x, most); err != api.OK && len(at) > 0 || err == api.OK && len(at) != len(most) {
			t.Fatal(at, err)
		}
	}
	for _, err := range []api.Errno{api.OK, api.ErrLong, api.ErrConst, api.ErrRange, api.ErrForm, api.ErrClock, api.ErrDiagonal} {
		if counts[err] < 100 {
			t.Error(err, counts)
		}
	}
}
