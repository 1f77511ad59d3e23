package times

import (
	"fmt"
	"math"
	"slices"
	"testing"

	"gnomon/api"
)

// isLeast holds what Least answers to points.
func isLeast(t *testing.T, n int, l []api.Diff, want ...int64) {
	t.Helper()
	got, grid, err := Least(n, l)
	if !slices.Equal(got, want) || grid != int64(n) || err != api.OK {
		t.Error(got, grid, err, "not", want)
	}
}

// notLeast holds Least to an error, and to nothing beside it.
func notLeast(t *testing.T, n int, l []api.Diff, want api.Errno) {
	t.Helper()
	if got, grid, err := Least(n, l); got != nil || grid != 0 || err != want {
		t.Error(got, grid, err, "not", want)
	}
}

func isGreatest(t *testing.T, n int, l []api.Diff, end int64, want ...int64) {
	t.Helper()
	if got, err := Greatest(n, l, end); !slices.Equal(got, want) || err != api.OK {
		t.Error(got, err, "not", want)
	}
}

func notGreatest(t *testing.T, n int, l []api.Diff, end int64, want api.Errno) {
	t.Helper()
	if got, err := Greatest(n, l, end); got != nil || err != want {
		t.Error(got, err, "not", want)
	}
}

// isDiffs holds what OfMoves answers to the text of differences.
func isDiffs(t *testing.T, want string) func([]api.Diff, api.Errno) {
	return func(l []api.Diff, err api.Errno) {
		t.Helper()
		if textOf(l) != want || err != api.OK {
			t.Errorf("%s %d\nnot %s", textOf(l), err, want)
		}
	}
}

// isRun holds what Run answers to delays, the last one too, and moves.
func isRun(t *testing.T, way []api.Move, want ...string) func(api.Run, api.Errno) {
	return func(r api.Run, err api.Errno) {
		t.Helper()
		var got []string
		for i, s := range r.Steps {
			got = append(got, fmt.Sprint(s.Delay.Num, "/", s.Delay.Den))
			if i >= len(way) || s.Move != way[i] {
				t.Error(i, s.Move)
			}
		}
		got = append(got, fmt.Sprint(r.Last.Num, "/", r.Last.Den))
		if !slices.Equal(got, want) || len(r.Steps) != len(way) || err != api.OK {
			t.Error(got, err, "not", want)
		}
	}
}

// fails holds OfMoves and Run to one error, and to nothing beside it.
func fails(t *testing.T, n api.Net, way []api.Move, g api.Part, want api.Errno) {
	t.Helper()
	if l, err := OfMoves(n, way, g); l != nil || err != want {
		t.Error(textOf(l), err, "not", want)
	}
	noRun(t, n, way, g, want)
}

// noRun holds Run to an error.
func noRun(t *testing.T, n api.Net, way []api.Move, g api.Part, want api.Errno) {
	t.Helper()
	if r, err := Run(n, way, g); r.Steps != nil || r.Last != (api.Rat{}) || err != want {
		t.Error(r, err, "not", want)
	}
}

// TestP19Examples: those of the chapter, and those of DOC.md that speak of runs.
func TestP19Examples(t *testing.T) {
	isLeast(t, 3, system(t, "0-1<=-3 1-2<-7"), 0, 9, 31)
	notLeast(t, 2, system(t, "1-0<0"), api.ErrNone)
	isLeast(t, 2, system(t, "1-0<1 0-1<0"), 0, 1)
	n := said(t, small)
	isRun(t, edges(0), "3/1", "0/1")(Run(n, edges(0), aim(t, n, "A.b")))
	isRun(t, edges(0), "3/1", "22/3")(Run(n, edges(0), aim(t, n, "A.b && x > 7")))
	isRun(t, nil, "0/1")(Run(n, nil, aim(t, n, "true")))
	noRun(t, n, nil, aim(t, n, "A.a && x > 5"), api.ErrNone)
	n = said(t, "clock x; auto A { loc a inv x <= 5; loc b; edge a -> b when x > 5 do x := 0; }")
	noRun(t, n, edges(0), aim(t, n, "A.b"), api.ErrNone)
}

// TestP19_1Points: from 1 to MaxTimes points, and no other number of them.
func TestP19_1Points(t *testing.T) {
	isLeast(t, 1, nil, 0)
	isLeast(t, 2, nil, 0, 0)
	isGreatest(t, 1, nil, 7, 0)
	isGreatest(t, 2, nil, 7, 0, 7)
	for _, n := range []int{math.MinInt, -1 << 32, -1, 0, api.MaxTimes + 1, 1 << 32, math.MaxInt} {
		// ErrRange is named ahead of all else.
		for _, l := range [][]api.Diff{nil, system(t, "0-0<=0"), system(t, "0-0<0"), {{I: -1}}} {
			notLeast(t, n, l, api.ErrRange)
			notGreatest(t, n, l, 1, api.ErrRange)
			notGreatest(t, n, l, -1, api.ErrRange)
		}
	}
	// As many as may be, each behind that ahead of it; in either order.
	var l []api.Diff
	for i := 1; i < api.MaxTimes; i++ {
		l = append(l, api.Diff{I: i - 1, J: i, Bound: -2})
	}
	for range 2 {
		got, grid, err := Least(api.MaxTimes, l)
		if len(got) != api.MaxTimes || grid != api.MaxTimes || err != api.OK {
			t.Fatal(len(got), grid, err)
		}
		for i, at := range got {
			if at != int64(i)*(api.MaxTimes+1) {
				t.Fatal(i, at)
			}
		}
		end := int64(api.MaxTimes-1) * (api.MaxTimes + 1)
		if most, err := Greatest(api.MaxTimes, l, end); !slices.Equal(most, got) || err != api.OK {
			t.Fatal(err)
		}
		notGreatest(t, api.MaxTimes, l, end-1, api.ErrNone)
		// With the last one at most just so far, and with a little less.
		last := api.Diff{I: api.MaxTimes - 1, Bound: 2 * api.MaxTimes}
		if got, _, err := Least(api.MaxTimes, append(l, last)); len(got) != api.MaxTimes || err != api.OK {
			t.Fatal(len(got), err)
		}
		last.Bound--
		notLeast(t, api.MaxTimes, append(l, last), api.ErrNone)
		slices.Reverse(l)
	}
}

// TestP19_1Far: points as far as points can be, of which nothing goes round.
func TestP19_1Far(t *testing.T) {
	const step = api.MaxTimes*api.MaxBound + 1
	var l []api.Diff
	for i := 1; i < api.MaxTimes; i++ {
		l = append(l, api.Diff{I: i - 1, J: i, Bound: -2 * api.MaxBound})
	}
	got, _, err := Least(api.MaxTimes, l)
	if len(got) != api.MaxTimes || err != api.OK {
		t.Fatal(len(got), err)
	}
	for i, at := range got {
		if at != int64(i)*step {
			t.Fatal(i, at)
		}
	}
	notGreatest(t, api.MaxTimes, l, 1<<50, api.ErrNone)
	// A circle of them has no end, whichever way it is gone round, be it through the point 0 or not.
	for range 2 {
		for _, from := range []int{0, 1} {
			round := append(slices.Clone(l), api.Diff{I: api.MaxTimes - 1, J: from, Bound: -2 * api.MaxBound})
			notLeast(t, api.MaxTimes, round, api.ErrNone)
			notGreatest(t, api.MaxTimes, round, 1<<50, api.ErrNone)
		}
		slices.Reverse(l)
	}
	// From above: no point is pulled down that far.
	for i := range l {
		l[i].Bound = 2*api.MaxBound + 1
	}
	if got, _, err := Least(api.MaxTimes, l); slices.Max(got) != 0 || err != api.OK {
		t.Fatal(slices.Max(got), err)
	}
	isGreatest(t, 2, system(t, "1-0<=268435456"), 1<<50, 0, 1<<29)
	isGreatest(t, 2, system(t, "1-0<268435456"), 1<<50, 0, 1<<29-1)
	isLeast(t, 2, system(t, "0-1<=-268435456"), 0, 1<<29)
	isLeast(t, 2, system(t, "0-1<-268435456"), 0, 1<<29+1)
}

// TestP19_1Form: an I, a J is none of a point's, or a Bound is not right.
func TestP19_1Form(t *testing.T) {
	for _, n := range []int{1, 2, 5, api.MaxTimes} {
		var wrong []api.Diff
		for _, i := range []int{math.MinInt, -1 << 32, -1, n, n + 1, 1 << 32, math.MaxInt} {
			for _, b := range []api.Bound{1, api.Inf} {
				wrong = append(wrong, api.Diff{I: i, Bound: b}, api.Diff{J: i, Bound: b}, api.Diff{I: i, J: i, Bound: b})
			}
		}
		for _, b := range []api.Bound{math.MinInt32, -2*api.MaxBound - 2, -2*api.MaxBound - 1, 2*api.MaxBound + 2, 2*api.MaxBound + 3, api.Inf - 1} {
			wrong = append(wrong, api.Diff{I: n - 1, Bound: b}, api.Diff{Bound: b})
		}
		// The first, the last, or one between; also of a system that nothing keeps.
		for _, w := range wrong {
			for _, good := range [][]api.Diff{nil, {{Bound: 1}, {Bound: 3}}, {{Bound: 0}, {Bound: 1}}} {
				for at := range len(good) + 1 {
					l := slices.Insert(slices.Clone(good), at, w)
					notLeast(t, n, l, api.ErrForm)
					notGreatest(t, n, l, 5, api.ErrForm)
					// ErrForm is named ahead of the ErrRange of end.
					notGreatest(t, n, l, -1, api.ErrForm)
					notGreatest(t, n, l, 1<<50+1, api.ErrForm)
				}
			}
		}
		// The last point may be, and the least and the greatest bounds.
		for _, b := range []api.Bound{2 * api.MaxBound, 2*api.MaxBound + 1, api.Inf} {
			if _, _, err := Least(n, []api.Diff{{I: n - 1, J: n - 1, Bound: b}, {I: n - 1, Bound: b}, {J: n - 1, Bound: b}}); err != api.OK {
				t.Error(n, b, err)
			}
		}
		notLeast(t, n, []api.Diff{{I: n - 1, J: n - 1, Bound: -2 * api.MaxBound}}, api.ErrNone)
	}
}

// TestP19_1Itself: a point less itself is 0; the same difference twice; Inf asks for nothing.
func TestP19_1Itself(t *testing.T) {
	for _, p := range []string{"0-0", "1-1", "2-2"} {
		for _, b := range []string{"<=0", "<1", "<=1", "<=268435456", "inf"} {
			isLeast(t, 3, system(t, p+b), 0, 0, 0)
			isGreatest(t, 3, system(t, p+b), 9, 0, 9, 9)
		}
		for _, b := range []string{"<0", "<=-1", "<-1", "<=-268435456"} {
			notLeast(t, 3, system(t, p+b), api.ErrNone)
			notGreatest(t, 3, system(t, p+b), 9, api.ErrNone)
		}
	}
	isLeast(t, 2, system(t, "0-1<=-2 0-1<=-2"), 0, 4)
	for _, s := range []string{"0-1<=-2 0-1<=-5 0-1<=-3", "0-1<=-5 0-1<=-2", "0-1<=-2 0-1<=-5", "0-1<=-5 0-1inf 0-1<-4", "0-1inf 0-1<=-5"} {
		isLeast(t, 2, system(t, s), 0, 10)
	}
	for _, s := range []string{"1-0<=7 1-0<=5 1-0<6", "1-0<=5 1-0inf", "1-0<6 1-0<=5"} {
		isGreatest(t, 2, system(t, s), 99, 0, 10)
	}
	isLeast(t, 2, system(t, "0-1inf 1-0inf 0-0inf 1-1inf"), 0, 0)
	isGreatest(t, 2, system(t, "0-1inf 1-0inf 0-0inf 1-1inf"), 3, 0, 3)
}

// TestP19_1None: systems that only less-than bounds make impossible, that have fractions but no whole times, that have no points at all; circles.
func TestP19_1None(t *testing.T) {
	for _, c := range []struct {
		n    int
		s    string
		want []int64
	}{
		// Only less than makes it impossible.
		{2, "1-0<=1 0-1<=-1", []int64{0, 2}},
		{2, "1-0<1 0-1<=-1", nil},
		{2, "1-0<=1 0-1<-1", nil},
		{2, "1-0<=0", []int64{0, 0}},
		{2, "1-0<0", nil},
		{3, "0-1<=0 1-2<=0 2-0<=0", []int64{0, 0, 0}},
		{3, "0-1<=0 1-2<0 2-0<=0", nil},
		// Fractions, but no whole times.
		{2, "1-0<1 0-1<0", []int64{0, 1}},
		{3, "0-1<0 1-2<0 2-0<1", []int64{0, 1, 2}},
		{4, "0-1<-1 1-2<0 2-3<0 3-0<2", []int64{0, 5, 6, 7}},
		// One point more than there is room for less-than bounds: still there is, as the grid is finer.
		{5, "0-1<0 1-2<0 2-3<0 3-4<0 4-0<1", []int64{0, 1, 2, 3, 4}},
		// None at all.
		{2, "1-0<=1 0-1<=-2", nil},
		{2, "1-0<=-1", nil},
		{3, "1-2<=-1 2-1<=-1", nil},
		// Circles that add up to 0, to less, to more.
		{3, "0-1<=-3 1-2<=1 2-0<=2", []int64{0, 9, 6}},
		{3, "0-1<=-3 1-2<=1 2-0<=1", nil},
		{3, "0-1<=-3 1-2<=1 2-0<=3", []int64{0, 9, 6}},
		{4, "1-2<=-3 2-3<=1 3-1<=2", []int64{0, 0, 12, 8}},
		{4, "1-2<=-3 2-3<=1 3-1<2", nil},
		{4, "1-2<=-3 2-3<=1 3-1<=1", nil},
		{4, "1-2<=-3 2-3<=1 3-1<3", []int64{0, 0, 12, 8}},
		// A point that pulls up those ahead of it.
		{4, "3-2<=1 2-1<=1 0-3<=-9", []int64{0, 28, 32, 36}},
		{4, "3-2<=1 2-1<=1 0-3<=-9 1-0<=7", []int64{0, 28, 32, 36}},
		{4, "3-2<=1 2-1<=1 0-3<=-9 1-0<7", nil},
	} {
		l := system(t, c.s)
		for range 2 {
			if c.want == nil {
				notLeast(t, c.n, l, api.ErrNone)
				notGreatest(t, c.n, l, 1<<50, api.ErrNone)
			} else {
				isLeast(t, c.n, l, c.want...)
			}
			slices.Reverse(l)
		}
	}
}

// TestP19_1Greatest: ends of 0, below 0, 2^50, one more, and too small for the system; the end is in units of the grid.
func TestP19_1Greatest(t *testing.T) {
	isGreatest(t, 3, nil, 0, 0, 0, 0)
	isGreatest(t, 3, nil, 1, 0, 1, 1)
	isGreatest(t, 3, nil, 1<<50, 0, 1<<50, 1<<50)
	for _, end := range []int64{math.MinInt64, -1 << 32, -1, 1<<50 + 1, 1 << 62, math.MaxInt64} {
		notGreatest(t, 3, nil, end, api.ErrRange)
		notGreatest(t, 1, nil, end, api.ErrRange)
		// Ahead of ErrNone.
		notGreatest(t, 3, system(t, "0-0<0"), end, api.ErrRange)
	}
	isGreatest(t, 3, system(t, "0-1<=-3"), 9, 0, 9, 9)
	notGreatest(t, 3, system(t, "0-1<=-3"), 8, api.ErrNone)
	notGreatest(t, 3, system(t, "0-1<=-3"), 0, api.ErrNone)
	isGreatest(t, 3, system(t, "0-1<-3"), 10, 0, 10, 10)
	notGreatest(t, 3, system(t, "0-1<-3"), 9, api.ErrNone)
	isGreatest(t, 3, system(t, "1-2<=-3"), 9, 0, 0, 9)
	isGreatest(t, 3, system(t, "1-2<=-3"), 20, 0, 11, 20)
	notGreatest(t, 3, system(t, "1-2<=-3"), 8, api.ErrNone)
	isGreatest(t, 3, system(t, "1-0<=2 2-1<3"), 100, 0, 6, 14)
	isGreatest(t, 3, system(t, "1-0<=2 2-1<3"), 10, 0, 6, 10)
	isGreatest(t, 3, system(t, "1-0<=2 2-1<3"), 5, 0, 5, 5)
	isGreatest(t, 3, system(t, "2-1<3 1-0<=2"), 100, 0, 6, 14)
	// The point 0 is at 0, whatever the end.
	isGreatest(t, 2, system(t, "0-1<=0"), 6, 0, 6)
	isGreatest(t, 2, system(t, "1-0<=0"), 6, 0, 0)
	notGreatest(t, 2, system(t, "1-0<0"), 6, api.ErrNone)
}

// TestP19_1Keeps: fractions are held against the bounds, not units of a grid.
func TestP19_1Keeps(t *testing.T) {
	for _, c := range []struct {
		points []int64
		grid   int64
		s      string
		want   bool
	}{
		{nil, 1, "", true},
		{[]int64{0}, 1, "", true},
		{[]int64{0, 3}, 1, "0-1<=-3", true},
		{[]int64{0, 3}, 1, "0-1<-3", false},
		{[]int64{0, 3}, 1, "1-0<=3", true},
		{[]int64{0, 3}, 1, "1-0<3", false},
		{[]int64{0, 3}, 1, "1-0<4 0-1<-2", true},
		{[]int64{0, 3}, 1, "1-0<4 0-1<-3 1-0<=3", false},
		{[]int64{0, 3}, 1, "0-1<-3 1-0<=3", false},
		{[]int64{0, 3}, 1, "1-0<=3 0-1<-3", false},
		// Less than is not one unit less: finer and coarser than the number of points.
		{[]int64{0, 2999999}, 1000000, "1-0<3", true},
		{[]int64{0, 3000000}, 1000000, "1-0<3", false},
		{[]int64{0, 1}, 3, "1-0<1 0-1<0", true},
		{[]int64{0, 2, 5, 9, 14}, 1, "4-3<=5 3-2<5", true},
		{[]int64{0, 1}, 1000000007, "0-1<0 1-0<1", true},
		{[]int64{0, 1}, 1000000007, "0-1<=-1", false},
		// A point less itself, Inf, the same twice.
		{[]int64{0, 3}, 2, "1-1<=0 0-0<=0 1-1<1", true},
		{[]int64{0, 3}, 2, "1-1<0", false},
		{[]int64{0, 3}, 2, "0-0<0", false},
		{[]int64{0, 3}, 2, "0-1inf 1-0inf", true},
		{[]int64{0, 3}, 2, "1-0<=2 1-0<=1", false},
		{[]int64{0, 3}, 2, "1-0<=1 1-0<=2", false},
		// The point 0 is as it is handed in: just what l says is asked.
		{[]int64{4, 4}, 2, "1-0<=0", true},
		{[]int64{4, 2}, 2, "1-0<=-1", true},
		{[]int64{4, 2}, 2, "1-0<-1", false},
		// Too few points.
		{nil, 1, "0-0<=0", false},
		{[]int64{0}, 1, "0-1inf", false},
		{[]int64{0}, 1, "1-0inf", false},
		{[]int64{0, 3}, 1, "0-2<=5", false},
		{[]int64{0, 3}, 1, "2-0<=5", false},
		{[]int64{0, 3}, 1, "2-2<=5", false},
		{[]int64{0, 3}, 1, "1-0<=5 2-2<=5", false},
		// Ends of what points may be.
		{[]int64{0, 1 << 50}, 1, "", true},
		{[]int64{0, 1<<50 + 1}, 1, "", false},
		{[]int64{1<<50 + 1, 0}, 1, "", false},
		{[]int64{0, -1}, 1, "", false},
		{[]int64{-1, 0}, 1, "", false},
		{[]int64{0, math.MaxInt64}, 1, "", false},
		{[]int64{0, math.MinInt64}, 1, "", false},
		{[]int64{0, 1 << 50}, 1 << 22, "1-0<=268435456 0-1<=-268435456", true},
		{[]int64{0, 1 << 50}, 1 << 22, "1-0<268435456", false},
		{[]int64{0, 1<<50 - 1}, 1 << 22, "1-0<268435456", true},
		{[]int64{0, 1 << 50}, 1, "1-0<=268435456", false},
		// Grids that the bounds times them cannot be held of.
		{[]int64{0, 1 << 50}, math.MaxInt64, "1-0<1 0-1<0 1-0<=268435456 0-1<268435456", true},
		{[]int64{0, 1 << 50}, math.MaxInt64, "0-1<=-268435456", false},
		{[]int64{0, 1 << 50}, 1 << 40, "0-1<=-1024 1-0<=1024", true},
		{[]int64{0, 1 << 50}, 1 << 40, "0-1<=-268435456", false},
	} {
		if got := Keeps(c.points, c.grid, system(t, c.s)); got != c.want {
			t.Error(c, got)
		}
	}
	for _, grid := range []int64{math.MinInt64, -1 << 32, -2, -1, 0} {
		for _, s := range []string{"", "0-0<=0", "1-0inf", "0-1<=5"} {
			if Keeps([]int64{0, 0}, grid, system(t, s)) || Keeps(nil, grid, nil) {
				t.Error(grid, s)
			}
		}
	}
	for _, d := range []api.Diff{{I: -1, Bound: api.Inf}, {J: -1, Bound: api.Inf}, {I: math.MinInt, Bound: 1}, {J: math.MaxInt, Bound: 1}, {I: 1, Bound: 2*api.MaxBound + 2}, {J: 1, Bound: api.Inf - 1}, {Bound: -2*api.MaxBound - 1}, {Bound: math.MinInt32}, {Bound: 2*api.MaxBound + 2}} {
		if Keeps([]int64{0, 0}, 1, []api.Diff{d}) || Keeps([]int64{0, 0}, 1, []api.Diff{{Bound: 1}, d}) {
			t.Error(d)
		}
	}
	// As many points as one likes.
	if !Keeps(make([]int64, 3*api.MaxTimes), 5, []api.Diff{{I: 3*api.MaxTimes - 1, Bound: 1}}) {
		t.Error("many")
	}
}

// TestP19_2Small: the differences of the small network by hand.
func TestP19_2Small(t *testing.T) {
	n := said(t, small)
	isDiffs(t, "0-0<=5 0-1<=0 1-0<=5")(OfMoves(n, nil, aim(t, n, "true")))
	isDiffs(t, "0-0<=5 0-1<=0 1-0<=5")(OfMoves(n, []api.Move{}, api.Part{}))
	isDiffs(t, "0-0<=5 0-1<=0 1-0<=5 0-1<=-3 1-2<=0")(OfMoves(n, edges(0), api.Part{}))
	isDiffs(t, "0-0<=5 0-1<=0 1-0<=5 0-1<=-3 1-2<=0 1-2<-7")(OfMoves(n, edges(0), aim(t, n, "A.b && x > 7")))
	// Without clocks, without invariants.
	n = said(t, "auto A { loc a; edge a -> a; }")
	isDiffs(t, "0-1<=0")(OfMoves(n, nil, api.Part{}))
	isDiffs(t, "0-1<=0 1-2<=0 2-3<=0")(OfMoves(n, edges(0, 0), api.Part{}))
	isRun(t, edges(0, 0), "0/1", "0/1", "0/1")(Run(n, edges(0, 0), api.Part{}))
}

// TestP19_2Guards: guards of each comparison, of one clock and of two; of clocks that were set once, twice, to numbers, never; at the end too.
func TestP19_2Guards(t *testing.T) {
	n := said(t, "clock x, y; auto A { loc a; edge a -> a do x := 3; edge a -> a do x := 1, x := 4; edge a -> a when x < 9 && y >= 2; edge a -> a do y := 7, x := 0; }")
	for sign, want := range map[string][2]string{
		"<":  {"2-0<9", "2-1<6"},
		"<=": {"2-0<=9", "2-1<=6"},
		"==": {"2-0<=9 0-2<=-9", "2-1<=6 1-2<=-6"},
		">=": {"0-2<=-9", "1-2<=-6"},
		">":  {"0-2<-9", "1-2<-6"},
	} {
		isDiffs(t, "0-1<=0 1-2<=0 "+want[0])(OfMoves(n, edges(0), aim(t, n, "y "+sign+" 9")))
		isDiffs(t, "0-1<=0 1-2<=0 "+want[1])(OfMoves(n, edges(0), aim(t, n, "x "+sign+" 9")))
		isDiffs(t, "0-1<=0 1-2<=0 "+want[1]+" "+want[0]+" "+want[1])(OfMoves(n, edges(0), aim(t, n, "x "+sign+" 9 && y "+sign+" 9 && x "+sign+" 9")))
	}
	// A number below the one that it was set to, and the same one.
	isDiffs(t, "0-1<=0 1-2<=0 2-1<-3 1-2<=3")(OfMoves(n, edges(0), aim(t, n, "x < 0 && x >= 0")))
	isDiffs(t, "0-1<=0 1-2<=0 2-1<=0 1-2<=0")(OfMoves(n, edges(0), aim(t, n, "x == 3")))
	// The second of two sets; set again; at another point.
	isDiffs(t, "0-1<=0 1-2<=0 2-1<=2")(OfMoves(n, edges(1), aim(t, n, "x <= 6")))
	isDiffs(t, "0-1<=0 1-2<=0 2-3<=0 3-2<=2")(OfMoves(n, edges(0, 1), aim(t, n, "x <= 6")))
	isDiffs(t, "0-1<=0 1-2<=0 2-3<=0 3-2<=3")(OfMoves(n, edges(1, 0), aim(t, n, "x <= 6")))
	isDiffs(t, "0-1<=0 1-2<=0 2-3<=0 3-2<=6 2-3<=6")(OfMoves(n, edges(1, 3), aim(t, n, "x <= 6 && y >= 1")))
	// A move's own guards see the sets of those ahead, not its own.
	isDiffs(t, "0-1<=0 1-0<9 0-1<=-2 1-2<=0")(OfMoves(n, edges(2), api.Part{}))
	isDiffs(t, "0-1<=0 1-2<=0 2-1<6 0-2<=-2 2-3<=0 3-1<6 0-3<=-2 3-4<=0")(OfMoves(n, edges(0, 2, 2), api.Part{}))
	isDiffs(t, "0-1<=0 1-2<=0 2-1<9 1-2<=5 2-3<=0")(OfMoves(n, edges(3, 2), api.Part{}))
	n = said(t, "clock x; auto A { loc a; edge a -> a when x > 2 do x := 8; }")
	isDiffs(t, "0-1<=0 0-1<-2 1-2<=0 1-2<6 2-3<=0 3-2<1")(OfMoves(n, edges(0, 0), aim(t, n, "x < 9")))
	// Numbers as great as may be.
	n = said(t, "clock x, y; auto A { loc a; edge a -> a do x := 1048576; }")
	isDiffs(t, "0-1<=0 1-2<=0 2-1<-1048576 1-2<=1048576 2-0<=1048576 0-2<=-1048576")(OfMoves(n, edges(0), aim(t, n, "x < 0 && x >= 0 && y == 1048576")))
}

// TestP19_2Clocks: as many clocks as may be, each with a last set of its own.
func TestP19_2Clocks(t *testing.T) {
	n := said(t, `clock a, b, c, d, e, f, g, h; auto A { loc l; edge l -> l do h := 8, a := 1; edge l -> l do g := 7; edge l -> l when h > 9 && g < 9; }`)
	all := aim(t, n, "a <= 9 && b <= 9 && c <= 9 && d <= 9 && e <= 9 && f <= 9 && g <= 9 && h <= 9")
	isDiffs(t, "0-1<=0 1-0<=9 1-0<=9 1-0<=9 1-0<=9 1-0<=9 1-0<=9 1-0<=9 1-0<=9")(OfMoves(n, nil, all))
	isDiffs(t, "0-1<=0 1-2<=0 2-3<=0 1-3<-1 3-2<2 3-4<=0 4-1<=8 4-0<=9 4-0<=9 4-0<=9 4-0<=9 4-0<=9 4-2<=2 4-1<=1")(OfMoves(n, edges(0, 1, 2), all))
	noRun(t, n, edges(0, 1, 2), all, api.ErrNone)
	isRun(t, edges(0, 1, 2), "0/1", "0/1", "6/5", "0/1")(Run(n, edges(0, 1, 2), api.Part{}))
}

// TestP19_2Stays: states in which no time passes, at the beginning, between and at the end.
func TestP19_2Stays(t *testing.T) {
	for _, kind := range []string{"urgent", "committed"} {
		n := said(t, "clock x; auto A { loc a "+kind+" inv x <= 4; loc b; edge a -> b; edge b -> a; }")
		isDiffs(t, "0-0<=4 0-1<=0 1-0<=0 1-0<=4")(OfMoves(n, nil, api.Part{}))
		isDiffs(t, "0-0<=4 0-1<=0 1-0<=0 1-0<=4 1-2<=0")(OfMoves(n, edges(0), api.Part{}))
		isDiffs(t, "0-0<=4 0-1<=0 1-0<=0 1-0<=4 1-2<=0 2-0<=4 2-3<=0 3-2<=0 3-0<=4 0-3<=-2")(OfMoves(n, edges(0, 1), aim(t, n, "x >= 2")))
		isRun(t, edges(0, 1), "0/1", "2/1", "0/1")(Run(n, edges(0, 1), aim(t, n, "x >= 2")))
		isDiffs(t, "0-0<=4 0-1<=0 1-0<=0 1-0<=4 1-2<=0 2-0<=4 2-3<=0 3-2<=0 3-0<=4 3-4<=0 0-4<-2")(OfMoves(n, edges(0, 1, 0), aim(t, n, "x > 2")))
		isRun(t, edges(0, 1, 0), "0/1", "0/1", "0/1", "11/5")(Run(n, edges(0, 1, 0), aim(t, n, "x > 2")))
		noRun(t, n, nil, aim(t, n, "x > 0"), api.ErrNone)
		noRun(t, n, edges(0, 1), aim(t, n, "x > 4"), api.ErrNone)
		// Of several automata one is enough.
		n = said(t, "clock x; auto A { loc a; loc b; edge a -> b; } auto B { loc a; loc k "+kind+"; edge a -> k; }")
		isDiffs(t, "0-1<=0 1-2<=0 2-1<=0")(OfMoves(n, []api.Move{{Auto: 1}}, api.Part{}))
		isDiffs(t, "0-1<=0 1-2<=0")(OfMoves(n, []api.Move{{}}, api.Part{}))
	}
}

// TestP19_2Invariants: invariants ahead of a move and behind it, of all automata, with the sets done behind it alone.
func TestP19_2Invariants(t *testing.T) {
	n := said(t, "clock x, y; auto A { loc a inv x <= 5; loc b inv x < 2 && y > 3; edge a -> b do x := 1; } auto B { loc c inv y == 4; }")
	isDiffs(t, "0-0<=5 0-0<=4 0-0<=-4 0-1<=0 1-0<=5 1-0<=4 0-1<=-4 1-1<1 0-1<-3 1-0<=4 0-1<=-4 1-2<=0 2-1<1 0-2<-3 2-0<=4 0-2<=-4")(OfMoves(n, edges(0), api.Part{}))
	// The first state's own invariants at 0: no run begins.
	noRun(t, n, edges(0), api.Part{}, api.ErrNone)
	noRun(t, n, nil, api.Part{}, api.ErrNone)
	// Behind a move at once, though time would mend it.
	n = said(t, "clock x; auto A { loc a; loc b inv x >= 3; edge a -> b; edge a -> b do x := 2; edge a -> b do x := 3; }")
	isRun(t, edges(0), "3/1", "0/1")(Run(n, edges(0), api.Part{}))
	noRun(t, n, edges(1), api.Part{}, api.ErrNone)
	isRun(t, edges(2), "0/1", "0/1")(Run(n, edges(2), api.Part{}))
	// Ahead of it, though the set would mend it.
	n = said(t, "clock x, y; auto A { loc a inv x <= 2; loc b; edge a -> b when y > 2 do x := 0; }")
	noRun(t, n, edges(0), api.Part{}, api.ErrNone)
}

// TestP19_2Rich: handshakes: the sender's guards and sets first; by hand, and by the words.
func TestP19_2Rich(t *testing.T) {
	n := said(t, rich)
	isDiffs(t, "0-0<=5 0-1<=0 1-0<=5 0-1<=-3 1-0<4 1-1<5 1-1<=2 1-1<=4 1-2<=0 2-1<=0 2-1<5 1-2<=2 2-1<=4 2-1<=0")(OfMoves(n, richWay()[:1], aim(t, n, "x <= 3")))
	g := aim(t, n, "A.b && B.u && n == 2 && m > 7 && y >= 2")
	isDiffs(t, textOf(wantDiffs(n, richWay(), g)))(OfMoves(n, richWay(), g))
	isRun(t, richWay(), "3/1", "0/1", "2/1", "0/1", "0/1")(Run(n, richWay(), g))
}

// TestP19_2Long: a way may have MaxZones moves, and no more; ErrLong is behind check.Goal's error, ahead of the way's.
func TestP19_2Long(t *testing.T) {
	n := said(t, "clock x, y; auto A { loc a inv x <= 1; loc b; edge a -> a do x := 0; edge a -> a when y > 1 do x := 0; }")
	way := make([]api.Move, api.MaxZones)
	g := aim(t, n, "A.a && y > 3000")
	l, err := OfMoves(n, way, g)
	if err != api.OK || len(l) != 1+3*api.MaxZones+2+1 {
		t.Fatal(len(l), err)
	}
	r, err := Run(n, way, g)
	if err != api.OK || len(r.Steps) != api.MaxZones || !replays(n, r, g) {
		t.Fatal(len(r.Steps), err)
	}
	noRun(t, n, way, aim(t, n, "A.a && y > 4097"), api.ErrNone)
	if r, err := Run(n, way, aim(t, n, "A.a && y >= 4097")); err != api.OK || r.Steps[17].Delay != (api.Rat{Num: 1, Den: 1}) {
		t.Error(err)
	}
	long := append(slices.Clone(way), api.Move{})
	fails(t, n, long, g, api.ErrLong)
	fails(t, n, long, aim(t, n, "A.b"), api.ErrLong)
	long[0].Auto = 9
	fails(t, n, long, aim(t, n, "A.b"), api.ErrLong)
	fails(t, n, long, api.Part{Locs: []api.At{{Loc: 2}}}, api.ErrLoc)
	fails(t, n, slices.Repeat(way, 3), api.Part{}, api.ErrLong)
}

// TestP19_2Move: a move that is none or can't be done, at each place; whatever keeps it from being done.
func TestP19_2Move(t *testing.T) {
	n := said(t, rich)
	for at := range len(richWay()) + 1 {
		for _, m := range []api.Move{{Auto: -1}, {Auto: 2}, {Edge: 4}, {Edge: -1}, {}, {With: 1}, {With: 3}, {With: -1}, {With: 2, Take: 3}, {Auto: 1, With: 1}, {Edge: 1, Take: 1}, {Auto: 1, Edge: 1, With: 1}, {Edge: 2}} {
			way := slices.Insert(richWay(), at, m)
			fails(t, n, way, api.Part{}, api.ErrMove)
			// Ahead of ErrGoal; what is behind it does not matter.
			fails(t, n, append(way, api.Move{Auto: 9}), aim(t, n, "A.a && A.b"), api.ErrMove)
		}
	}
	// A test that does not hold, a value that may not be: ErrMove, too.
	fails(t, n, slices.Insert(richWay()[:3:3], 3, api.Move{Edge: 1}), api.Part{}, api.ErrMove)
	n = said(t, "int n in 0 .. 2 := 0; auto A { loc a; edge a -> a do n := n + 1; }")
	isRun(t, edges(0, 0), "0/1", "0/1", "0/1")(Run(n, edges(0, 0), api.Part{}))
	fails(t, n, edges(0, 0, 0), api.Part{}, api.ErrMove)
	n = said(t, "int n in 0 .. 2 := 0; auto A { loc a; edge a -> a when n * 1048576 * 1048576 * 1048576 * 1048576 == 0 do n := n + 1; }")
	fails(t, n, edges(0, 0), api.Part{}, api.ErrMove)
	// Somebody else is in a Committed location.
	n = said(t, "auto A { loc a; edge a -> a; } auto B { loc k committed; loc b; edge k -> b; }")
	fails(t, n, []api.Move{{}}, api.Part{}, api.ErrMove)
	isRun(t, []api.Move{{Auto: 1}, {}}, "0/1", "0/1", "0/1")(Run(n, []api.Move{{Auto: 1}, {}}, api.Part{}))
	// Guards of clocks that do not hold are none of that: the way has no run.
	n = said(t, "clock x; auto A { loc a inv x <= 1; edge a -> a when x > 3; }")
	isDiffs(t, "0-0<=1 0-1<=0 1-0<=1 0-1<-3 1-0<=1 1-2<=0 2-0<=1")(OfMoves(n, edges(0), api.Part{}))
	noRun(t, n, edges(0), api.Part{}, api.ErrNone)
}

// TestP19_2Goal: a part whose locations or test do not hold behind the last move.
func TestP19_2Goal(t *testing.T) {
	n := said(t, rich)
	for _, c := range []struct {
		k    int
		goal string
		err  api.Errno
	}{
		{0, "A.a && B.a && n == 0 && m == 2", api.OK},
		{0, "A.b", api.ErrGoal},
		{0, "A.a && B.u", api.ErrGoal},
		{0, "A.a && A.b", api.ErrGoal},
		{0, "A.a && A.a", api.OK},
		{0, "n == 1", api.ErrGoal},
		{1, "A.b && B.u && n == 1 && m == 4", api.OK},
		{1, "A.a", api.ErrGoal},
		{1, "B.u && n == 0", api.ErrGoal},
		{2, "B.b", api.OK},
		{2, "B.u", api.ErrGoal},
		{4, "n == 2 && m == 8", api.OK},
		{4, "n == 2 && m == 4", api.ErrGoal},
		// A test without a value does not hold, nor does its opposite.
		{0, "1048576 * 1048576 * 1048576 * 1048576 > 0", api.ErrGoal},
		{0, "!(1048576 * 1048576 * 1048576 * 1048576 > 0)", api.ErrGoal},
		// Guards of the part do not matter to it.
		{0, "A.b && x > 5", api.ErrGoal},
	} {
		way := richWay()[:c.k]
		if c.err != api.OK {
			fails(t, n, way, aim(t, n, c.goal), c.err)
		} else if _, err := OfMoves(n, way, aim(t, n, c.goal)); err != api.OK {
			t.Error(c, err)
		}
	}
	noRun(t, n, nil, aim(t, n, "A.a && x > 5"), api.ErrNone)
}

// TestP19_2Wrong: check.Net's error, then check.Goal's of the part, ahead of all others.
func TestP19_2Wrong(t *testing.T) {
	n := said(t, rich)
	long := make([]api.Move, api.MaxZones+1)
	parts := append(wrongParts(t), fault{g: aim(t, n, "A.a && n < 3")}, fault{g: aim(t, n, "A.b")}, fault{})
	for _, way := range [][]api.Move{nil, richWay(), edges(1), edges(-1), long} {
		for _, w := range wrongNets(t) {
			for _, g := range parts {
				fails(t, w.n, way, g.g, w.err)
			}
		}
		for _, w := range wrongParts(t) {
			fails(t, n, way, w.g, w.err)
		}
	}
	// Two clocks held against one another: by an edge, an invariant, the part.
	diagonal := []api.Guard{{Clock: 1, Other: 2, Cmp: api.Lt, N: 3}}
	plain := func() api.Net { return said(t, "clock x, y; auto A { loc a; edge a -> a; }") }
	n = plain()
	n.Autos[0].Edges[0].Guards = diagonal
	fails(t, n, nil, api.Part{}, api.ErrDiagonal)
	n = plain()
	n.Autos[0].Locs[0].Inv = diagonal
	fails(t, n, nil, api.Part{}, api.ErrDiagonal)
	fails(t, plain(), nil, api.Part{Guards: diagonal}, api.ErrDiagonal)
	isRun(t, nil, "0/1")(Run(plain(), nil, api.Part{}))
}

// TestP3Lists: what is handed in stays as it is, spare room too; what is answered is the caller's.
func TestP3Lists(t *testing.T) {
	n := said(t, rich)
	g := aim(t, n, "A.b && B.u && y > 1 && n == 2")
	before := fmt.Sprint(n, g)
	way := append(richWay(), api.Move{Auto: 77}, api.Move{Auto: 78})[:4]
	l := append(system(t, "0-1<=-3 0-1<=-1 1-2<-7 2-0inf 0-2<=-20"), system(t, "2-2<=5 1-1<=7")...)[:5]
	points := []int64{0, 9, 60, 44, 45}[:3]
	var answers []any
	for range 2 {
		least, _, _ := Least(3, l)
		most, _ := Greatest(3, l, 90)
		diffs, _ := OfMoves(n, way, g)
		r, err := Run(n, way, g)
		if !Keeps(points, 3, l) || err != api.OK || len(least)+len(most) != 6 || len(diffs) == 0 {
			t.Fatal(least, most, diffs, r, err)
		}
		answers = append(answers, least, most, diffs, r)
	}
	if shared(append(answers, way, l, points, n, g)...) {
		t.Error("shared")
	}
	for _, a := range answers {
		switch x := a.(type) {
		case []int64:
			clear(x[:cap(x)])
		case []api.Diff:
			clear(x[:cap(x)])
		case api.Run:
			clear(x.Steps[:cap(x.Steps)])
		}
	}
	if fmt.Sprint(n, g) != before || !slices.Equal(way[:6], append(richWay(), api.Move{Auto: 77}, api.Move{Auto: 78})) {
		t.Error("changed")
	}
	if textOf(l[:7]) != "0-1<=-3 0-1<=-1 1-2<-7 2-0inf 0-2<=-20 2-2<=5 1-1<=7" || !slices.Equal(points[:5], []int64{0, 9, 60, 44, 45}) {
		t.Error("changed")
	}
	isLeast(t, 3, l, 0, 9, 60)
}

// TestP1Any: nothing panics, whatever it is given, and beside an error there is nothing.
func TestP1Any(t *testing.T) {
	r := source(14)
	wild := []int{math.MinInt, -1 << 32, -2, -1, 0, 0, 0, 0, 0, 1, 1, 1, 2, 2, 3, 255, 1 << 20, 1<<20 + 1, 1 << 32, math.MaxInt}
	any := func() int { return wild[r.IntN(len(wild))] }
	nets := []api.Net{said(t, rich), said(t, small), said(t, "auto A { loc a; edge a -> a; }")}
	for _, w := range wrongNets(t) {
		nets = append(nets, w.n)
	}
	counts, solved := map[api.Errno]int{}, map[api.Errno]int{}
	for range 20000 {
		n := nets[r.IntN(len(nets))]
		var way []api.Move
		var l []api.Diff
		var points []int64
		for range r.IntN(4) {
			way = append(way, api.Move{Auto: any(), Edge: any(), With: any() * r.IntN(2), Take: any() * r.IntN(2)})
			l = append(l, api.Diff{I: any() * r.IntN(2), J: any() * r.IntN(2), Bound: api.Bound(any())})
			points = append(points, int64(any()))
		}
		var g api.Part
		if r.IntN(2) == 0 {
			g = api.Part{Locs: []api.At{{Auto: any(), Loc: any()}}, Guards: []api.Guard{{Clock: any(), Other: any(), Cmp: api.Cmp(any()), N: any()}}, Test: []api.Node{{Op: api.Op(any()), N: any()}}}
		}
		least, grid, err := Least(any(), l)
		if (err == api.OK) != (least != nil) || (err == api.OK) != (grid > 0) {
			t.Fatal(least, grid, err)
		}
		solved[err]++
		if most, err := Greatest(any(), l, int64(any())); (err == api.OK) != (most != nil) {
			t.Fatal(most, err)
		}
		Keeps(points, int64(any()), l)
		diffs, err := OfMoves(n, way, g)
		if (err == api.OK) != (diffs != nil) {
			t.Fatal(diffs, err)
		}
		counts[err]++
		if run, err2 := Run(n, way, g); err != api.OK && err2 != err || err2 != api.OK && (run.Steps != nil || run.Last.Den != 0) {
			t.Fatal(run, err, err2)
		}
	}
	if counts[api.OK] < 300 || counts[api.ErrMove] < 300 || counts[api.ErrDiagonal] < 100 || counts[api.ErrLoc] < 100 || solved[api.OK] < 300 || solved[api.ErrForm] < 300 || solved[api.ErrNone] < 100 {
		t.Error(counts, solved)
	}
}
