package run

import (
	"fmt"
	"math"
	"slices"
	"strings"
	"testing"

	"gnomon/api"
	"gnomon/moves"
)

// isRun holds a run to another one.
func isRun(t *testing.T, want api.Run) func(api.Run) {
	return func(r api.Run) {
		t.Helper()
		if !slices.Equal(r.Steps, want.Steps) || r.Last != want.Last {
			t.Error(r, "not", want)
		}
	}
}

// isMade holds a run and an error to others.
func isMade(t *testing.T, want api.Run, wantErr api.Errno) func(api.Run, api.Errno) {
	return func(r api.Run, err api.Errno) {
		t.Helper()
		if isRun(t, want)(r); err != wantErr || err != api.OK && r.Steps != nil {
			t.Error(r, err, "not", wantErr)
		}
	}
}

// isTimes holds what Times answers to fractions and an error.
func isTimes(t *testing.T, want []api.Rat, wantErr api.Errno) func([]api.Rat, api.Errno) {
	return func(l []api.Rat, err api.Errno) {
		t.Helper()
		if !slices.Equal(l, want) || err != wantErr || err != api.OK && l != nil {
			t.Error(l, err, "not", want, wantErr)
		}
	}
}

// isText holds what Print answers to a text and an error.
func isText(t *testing.T, want string, wantErr api.Errno) func(string, api.Errno) {
	return func(text string, err api.Errno) {
		t.Helper()
		if text != want || err != wantErr {
			t.Errorf("%q %d, not %q %d", text, err, want, wantErr)
		}
	}
}

// isRead holds what Parse answers to a run, an error and a line.
func isRead(t *testing.T, want api.Run, wantErr api.Errno, wantLine int) func(api.Run, api.Errno, int) {
	return func(r api.Run, err api.Errno, line int) {
		t.Helper()
		if isRun(t, want)(r); err != wantErr || line != wantLine {
			t.Error(err, line, "not", wantErr, wantLine)
		}
	}
}

// isErr holds Right and Print to an error.
func isErr(t *testing.T, n api.Net, r api.Run, want api.Errno) {
	t.Helper()
	if err := Right(n, r); err != want {
		t.Error(r, err, "not", want)
	}
	if want != api.OK {
		isText(t, "", want)(Print(n, r))
	}
}

// TestP20Examples: those of the chapter.
func TestP20Examples(t *testing.T) {
	n := said(t, small)
	r := api.Run{Steps: []api.Step{{Delay: frac(t, "3")}}, Last: frac(t, "0")}
	isText(t, "3 A.0\n0 end\n", api.OK)(Print(n, r))
	isTimes(t, fracs(t, "3 3"), api.OK)(Times(r))
	isText(t, "0 end\n", api.OK)(Print(n, Cut(r, 0)))
	r.Steps[0].Delay = frac(t, "1/2")
	joined, err := Join(api.Run{Last: frac(t, "3")}, r)
	if err != api.OK {
		t.Error(err)
	}
	isText(t, "7/2 A.0\n0 end\n", api.OK)(Print(n, joined))
}

// TestP20_1Right: the first that applies.
func TestP20_1Right(t *testing.T) {
	n := said(t, rich)
	for _, s := range []string{"0", "7", "1/2 0", "0 0 0", "9223372036854775807 1/9223372036854775807 9223372036854775806/9223372036854775807", "1 2 3 4 5 6 7 8 9"} {
		isErr(t, n, timed(t, 0, s), api.OK)
		isErr(t, n, timed(t, 2, s), api.OK)
	}
	// Whether it can be done is not asked, nor is check.Net.
	isErr(t, diagonal(t), api.Run{Steps: []api.Step{{Delay: frac(t, "99")}, {Delay: frac(t, "0")}}, Last: frac(t, "0")}, api.OK)
	wrong := long(api.MaxZones + 1)
	for i, n := range wrongNets(t) {
		for _, r := range []api.Run{{}, timed(t, 0, "0"), timed(t, 0, "0 0 0"), timed(t, 0, "-1 0"), wrong, {Steps: []api.Step{{Move: noMoves[i]}}}} {
			isErr(t, n, r, api.ErrForm)
		}
	}
}

// TestP20_1Long: a run may have MaxZones steps, and no more; ErrLong is ahead of ErrMove and ErrDelay.
func TestP20_1Long(t *testing.T) {
	n := said(t, small)
	isErr(t, n, long(0), api.OK)
	isErr(t, n, long(api.MaxZones), api.OK)
	isErr(t, n, long(api.MaxZones+1), api.ErrLong)
	isErr(t, n, long(2*api.MaxZones), api.ErrLong)
	r := long(api.MaxZones + 1)
	r.Steps[5].Move.Edge = 7
	r.Steps[9].Delay = api.Rat{}
	isErr(t, n, r, api.ErrLong)
	// One fewer: what is wrong is told, wherever it is.
	r.Steps = r.Steps[1:]
	isErr(t, n, r, api.ErrMove)
	r.Steps[4].Move.Edge = 0
	isErr(t, n, r, api.ErrDelay)
	r.Steps[8].Delay = api.Rat{Den: 1}
	isErr(t, n, r, api.OK)
}

// TestP20_1Move: a move that is none, at each place, ahead of each ErrDelay.
func TestP20_1Move(t *testing.T) {
	n := said(t, rich)
	for at := range 5 {
		for _, m := range noMoves {
			r := timed(t, 1, "1 2 3 4 5 6")
			r.Steps[at].Move = m
			isErr(t, n, r, api.ErrMove)
			r.Last = api.Rat{}
			isErr(t, n, r, api.ErrMove)
			r.Steps[0].Delay = frac(t, "-1")
			isErr(t, n, r, api.ErrMove)
		}
		for _, c := range richMoves {
			r := timed(t, 1, "1 2 3 4 5 6")
			r.Steps[at].Move = c.move
			isErr(t, n, r, api.OK)
		}
	}
}

// wrongRats are fractions that are not right, or below 0.
func wrongRats(t *testing.T) []api.Rat {
	return append(fracs(t, "-1 -1/2 -9223372036854775808 2/4 0/2 1/0 0/0 1/-1 -1/-1 -9223372036854775808/2 3/3 0/-1 5/-9223372036854775808"), api.Rat{Num: math.MinInt64, Den: math.MinInt64})
}

// TestP20_1Delay: delays and Lasts that are not right or below 0, at each place; in Times likewise.
func TestP20_1Delay(t *testing.T) {
	n := said(t, rich)
	for at := range 6 {
		for _, d := range wrongRats(t) {
			r := timed(t, 0, "1 1/2 0 9223372036854775807 5 6")
			if at < 5 {
				r.Steps[at].Delay = d
			} else {
				r.Last = d
			}
			isErr(t, n, r, api.ErrDelay)
			// Ahead of a sum that can't be held.
			isTimes(t, nil, api.ErrDelay)(Times(r))
		}
	}
	isErr(t, n, api.Run{}, api.ErrDelay)
	isTimes(t, nil, api.ErrDelay)(Times(api.Run{}))
}

// TestP20_1Moves: its moves, in order, as they stand.
func TestP20_1Moves(t *testing.T) {
	if l := Moves(api.Run{}); len(l) != 0 {
		t.Error(l)
	}
	if l := Moves(timed(t, 3, "1 2 3 4 5 6")); !slices.Equal(l, way(3, 5)) {
		t.Error(l)
	}
	var r api.Run
	for _, m := range noMoves {
		r.Steps = append(r.Steps, api.Step{Move: m})
	}
	if l := Moves(r); !slices.Equal(l, noMoves) {
		t.Error(l)
	}
	if l := Moves(long(3 * api.MaxZones)); len(l) != 3*api.MaxZones {
		t.Error(len(l))
	}
}

// TestP20_1Same: the same steps and Last, as they stand.
func TestP20_1Same(t *testing.T) {
	all := []api.Run{{}, {Last: frac(t, "0")}, {Last: frac(t, "0/2")}, timed(t, 0, "1 2"), timed(t, 1, "1 2"), timed(t, 0, "1 3"), timed(t, 0, "2 2"), timed(t, 0, "1 2 2"), timed(t, 0, "1 2/1 3"), timed(t, 0, "1 4/2 3"), timed(t, 0, "-1 0/0"), long(2), long(3)}
	for i, a := range all {
		for j, b := range all {
			b.Steps = append([]api.Step(nil), b.Steps...)
			if Same(a, b) != (i == j) {
				t.Error(a, b)
			}
		}
	}
	// An empty list is as nil.
	if !Same(api.Run{Steps: []api.Step{}}, api.Run{}) {
		t.Error("empty")
	}
	for _, m := range []api.Move{{Auto: 1}, {Edge: 1}, {With: 1}, {Take: 1}} {
		if Same(api.Run{Steps: []api.Step{{Move: m}}}, api.Run{Steps: []api.Step{{}}}) {
			t.Error(m)
		}
	}
}

// TestP20_2Times: sums of delays, one behind the other.
func TestP20_2Times(t *testing.T) {
	for _, c := range []struct {
		delays, times string
		err           api.Errno
	}{
		{"0", "0", api.OK},
		{"7/3", "7/3", api.OK},
		{"3 0", "3 3", api.OK},
		{"0 0 0", "0 0 0", api.OK},
		{"1/2 1/3 1/6 0 1/4", "1/2 5/6 1 1 5/4", api.OK},
		{"9223372036854775807 0", "9223372036854775807 9223372036854775807", api.OK},
		{"9223372036854775806 1", "9223372036854775806 9223372036854775807", api.OK},
		{"9223372036854775807 1", "", api.ErrOver},
		{"9223372036854775807 1/2", "", api.ErrOver},
		{"1 9223372036854775807 0 0", "", api.ErrOver},
		{"1 0 0 9223372036854775807", "", api.ErrOver},
		// A denominator that can't be held.
		{"1/4294967296 1/4294967295", "", api.ErrOver},
		{"1/4294967296 1/4294967296", "1/4294967296 1/2147483648", api.OK},
		{"1/9223372036854775807 1/9223372036854775807", "1/9223372036854775807 2/9223372036854775807", api.OK},
		{"1/9223372036854775807 1/2", "", api.ErrOver},
	} {
		var want []api.Rat
		if c.err == api.OK {
			want = fracs(t, c.times)
		}
		isTimes(t, want, c.err)(Times(timed(t, 0, c.delays)))
	}
	// A sum on the way that can't be held, though that of all can, in another order.
	isTimes(t, nil, api.ErrOver)(Times(timed(t, 0, "1/3037000507 1/3037000493 3037000506/3037000507")))
	isTimes(t, fracs(t, "1/3037000507 1 3037000494/3037000493"), api.OK)(Times(timed(t, 0, "1/3037000507 3037000506/3037000507 1/3037000493")))
	// A run may be as long as it likes here.
	l, err := Times(long(3 * api.MaxZones))
	if err != api.OK || len(l) != 3*api.MaxZones+1 || l[3*api.MaxZones] != (api.Rat{Num: 3 * api.MaxZones, Den: 1}) || l[7] != frac(t, "8") {
		t.Error(len(l), err)
	}
}

// TestP20_2OfTimes: differences of times; ErrLong, ErrDelay, ErrOver, in this order.
func TestP20_2OfTimes(t *testing.T) {
	for _, c := range []struct {
		times, delays string
		err           api.Errno
	}{
		{"0", "0", api.OK},
		{"7/3", "7/3", api.OK},
		{"3 3", "3 0", api.OK},
		{"1/2 5/6 1 1 5/4", "1/2 1/3 1/6 0 1/4", api.OK},
		{"0 9223372036854775807", "0 9223372036854775807", api.OK},
		{"1/9223372036854775807 2/9223372036854775807", "1/9223372036854775807 1/9223372036854775807", api.OK},
		// Times that fall, or begin below 0.
		{"3 2", "", api.ErrDelay},
		{"1/2 1/3 1", "", api.ErrDelay},
		{"1 2 3 3 2", "", api.ErrDelay},
		{"1 2 3 3 26/9", "", api.ErrDelay},
		{"-1", "", api.ErrDelay},
		{"-1/9223372036854775807 0", "", api.ErrDelay},
		{"-9223372036854775808 5", "", api.ErrDelay},
		{"9223372036854775807/9223372036854775806 1", "", api.ErrDelay},
		// Differences that can't be held.
		{"1/4294967297 1/4294967295", "", api.ErrOver},
		{"0 1/9223372036854775807 1/2", "", api.ErrOver},
		{"1/9223372036854775807 1/2 1/3", "", api.ErrDelay},
		{"1/9223372036854775807 1/2 2/4", "", api.ErrDelay},
		{"1/9223372036854775807 9223372036854775807", "", api.ErrOver},
	} {
		times := fracs(t, c.times)
		var want api.Run
		if c.err == api.OK {
			want = timed(t, 1, c.delays)
		}
		moves := way(1, len(times)-1)
		isMade(t, want, c.err)(OfTimes(moves, times))
		// Too few times, too many: whatever they are.
		isMade(t, api.Run{}, api.ErrLong)(OfTimes(append(moves, api.Move{}), times))
		isMade(t, api.Run{}, api.ErrLong)(OfTimes(append(moves, api.Move{}, api.Move{}), times))
		isMade(t, api.Run{}, api.ErrLong)(OfTimes(moves, append(times, times[0])))
		isMade(t, api.Run{}, api.ErrLong)(OfTimes(moves, times[:len(times)-1]))
		isMade(t, api.Run{}, api.ErrLong)(OfTimes(moves, nil))
	}
	isMade(t, api.Run{}, api.ErrLong)(OfTimes(nil, nil))
	// At each place a time that is not right.
	for at := range 5 {
		for _, x := range wrongRats(t) {
			l := fracs(t, "1 2 3 4 5")
			l[at] = x
			isMade(t, api.Run{}, api.ErrDelay)(OfTimes(way(0, 4), l))
		}
	}
	// Moves are not asked for, nor is MaxZones.
	isMade(t, api.Run{Steps: []api.Step{{Delay: frac(t, "1"), Move: api.Move{Auto: -7, Take: 9}}}, Last: frac(t, "1")}, api.OK)(OfTimes([]api.Move{{Auto: -7, Take: 9}}, fracs(t, "1 2")))
	r, err := OfTimes(make([]api.Move, 3*api.MaxZones), slices.Repeat(fracs(t, "5"), 3*api.MaxZones+1))
	if err != api.OK || len(r.Steps) != 3*api.MaxZones || r.Steps[0].Delay != frac(t, "5") || r.Steps[1].Delay != frac(t, "0") || r.Last != frac(t, "0") {
		t.Error(len(r.Steps), err)
	}
}

// TestP20_3Cut: below 0, within, at the number of steps and above it.
func TestP20_3Cut(t *testing.T) {
	r := timed(t, 0, "1 2/3 3 4/5")
	for k, want := range map[int]string{math.MinInt: "0", -1: "0", 0: "0", 1: "1 0", 2: "1 2/3 0", 3: "1 2/3 3 0", 4: "1 2/3 3 4/5", 5: "1 2/3 3 4/5", math.MaxInt: "1 2/3 3 4/5"} {
		isRun(t, timed(t, 0, want))(Cut(r, k))
	}
	for k, want := range map[int]string{math.MinInt: "0", -1: "0", 0: "0", 1: "7/2", math.MaxInt: "7/2"} {
		isRun(t, timed(t, 0, want))(Cut(timed(t, 0, "7/2"), k))
	}
	// What is not right stays as it stands.
	r = timed(t, 0, "-1 2/4 0/0")
	isRun(t, r)(Cut(r, 3))
	isRun(t, timed(t, 0, "-1 2/4 0"))(Cut(r, 2))
	isRun(t, timed(t, 0, "-1 0"))(Cut(r, 1))
	isRun(t, api.Run{})(Cut(api.Run{}, 1))
	isRun(t, api.Run{Last: frac(t, "0")})(Cut(api.Run{}, 0))
}

// TestP20_3Join: of none, of runs without steps, of several.
func TestP20_3Join(t *testing.T) {
	type row []string
	for _, c := range []struct {
		runs row
		want string
		err  api.Errno
	}{
		// Of none: as it stands.
		{row{"1 2 3"}, "1 2 3", api.OK},
		{row{"5"}, "5", api.OK},
		{row{"-1 2/4 0/0"}, "-1 2/4 0/0", api.OK},
		{row{"1 2 3", "4 5"}, "1 2 7 5", api.OK},
		{row{"1 2 3/2", "1/3 5 6"}, "1 2 11/6 5 6", api.OK},
		{row{"3", "1/2 0"}, "7/2 0", api.OK},
		{row{"1 2", "3"}, "1 5", api.OK},
		{row{"1", "2"}, "3", api.OK},
		{row{"1", "2", "3", "4"}, "10", api.OK},
		{row{"1 1", "2", "3", "4 5"}, "1 10 5", api.OK},
		{row{"1 2 3", "4 5", "6 7 8", "9", "10 11"}, "1 2 7 11 7 27 11", api.OK},
		// Below 0 is right enough.
		{row{"1 -2", "5 6"}, "1 3 6", api.OK},
		{row{"1 2", "-5 -6"}, "1 -3 -6", api.OK},
		{row{"-1/2", "-1/2"}, "-1", api.OK},
		// A delay or Last that is added is not right.
		{row{"1 2/4", "3 4"}, "", api.ErrDelay},
		{row{"1 0/0", "3"}, "", api.ErrDelay},
		{row{"1 2", "3/3 4"}, "", api.ErrDelay},
		{row{"1 2", "2/4"}, "", api.ErrDelay},
		{row{"1 2", "3 4 5/0", "6 7"}, "", api.ErrDelay},
		{row{"1 2", "3 4", "1/-1 7"}, "", api.ErrDelay},
		{row{"1 2", "3", "0/2"}, "", api.ErrDelay},
		// One that is not added stays as it stands.
		{row{"2/4 2", "3 2/4 0/0"}, "2/4 5 2/4 0/0", api.OK},
		{row{"0/0 1", "1 0/0 1", "1 0/0"}, "0/0 2 0/0 2 0/0", api.OK},
		// Sums that can't be held; what is not right counts ahead of them.
		{row{"9223372036854775807", "1"}, "", api.ErrOver},
		{row{"1 9223372036854775807", "1 0"}, "", api.ErrOver},
		{row{"1/4294967297", "1/4294967295 5"}, "", api.ErrOver},
		{row{"1 2", "3 9223372036854775807", "1 0"}, "", api.ErrOver},
		{row{"9223372036854775807", "0", "1"}, "", api.ErrOver},
		{row{"9223372036854775806", "0", "1"}, "9223372036854775807", api.OK},
		{row{"9223372036854775807", "-1", "1"}, "9223372036854775807", api.OK},
		{row{"9223372036854775807", "1", "-1"}, "", api.ErrOver},
		{row{"-9223372036854775808", "-1"}, "", api.ErrOver},
		{row{"9223372036854775807", "1 5", "2/4 1"}, "", api.ErrDelay},
		{row{"9223372036854775807", "1 2/4", "2 1"}, "", api.ErrDelay},
		{row{"9223372036854775807", "1 5 2/4"}, "", api.ErrOver},
	} {
		var l []api.Run
		from := 0
		for _, s := range c.runs {
			r := timed(t, from, s)
			from += len(r.Steps)
			l = append(l, r)
		}
		var want api.Run
		if c.err == api.OK {
			want = timed(t, 0, c.want)
		}
		isMade(t, want, c.err)(Join(l[0], l[1:]...))
	}
	// More steps than a run may have, and moves that are none, are not asked for.
	r, err := Join(long(api.MaxZones), long(api.MaxZones), api.Run{Steps: []api.Step{{Delay: frac(t, "4"), Move: api.Move{Auto: -1}}}, Last: frac(t, "2")})
	if err != api.OK || len(r.Steps) != 2*api.MaxZones+1 || r.Steps[2*api.MaxZones].Move.Auto != -1 || r.Last != frac(t, "2") {
		t.Error(len(r.Steps), err)
	}
}

// TestP20_4Print: each step a line, and a line of the end.
func TestP20_4Print(t *testing.T) {
	n := said(t, rich)
	isText(t, "0 end\n", api.OK)(Print(n, timed(t, 0, "0")))
	isText(t, "22/3 end\n", api.OK)(Print(n, timed(t, 0, "22/3")))
	isText(t, "1 A.0 end.0\n1/2 A.1\n0 A.2 end.2\n9223372036854775807 end.1\n1/9223372036854775807 A.0 end.0\n12 end\n", api.OK)(Print(n, timed(t, 0, "1 1/2 0 9223372036854775807 1/9223372036854775807 12")))
	n = said(t, small)
	isText(t, strings.Repeat("1 A.0\n", api.MaxZones)+"0 end\n", api.OK)(Print(n, long(api.MaxZones)))
	isText(t, "", api.ErrLong)(Print(n, long(api.MaxZones+1)))
}

// good is a text of a run of the rich network, line by line.
func good() []string {
	return []string{"1 A.0 end.0", "1/2 A.1", "0 A.2 end.2", "9/7 end.1", "12 end"}
}

// TestP20_4Parse: the run with that text.
func TestP20_4Parse(t *testing.T) {
	n := said(t, rich)
	isRead(t, timed(t, 0, "1 1/2 0 9/7 12"), api.OK, 0)(Parse(n, strings.Join(good(), "\n")+"\n"))
	isRead(t, timed(t, 0, "0"), api.OK, 0)(Parse(n, "0 end\n"))
	isRead(t, timed(t, 0, "22/3"), api.OK, 0)(Parse(n, "22/3 end\n"))
	isRead(t, timed(t, 3, "9223372036854775807 0"), api.OK, 0)(Parse(n, "9223372036854775807 end.1\n0 end\n"))
	// Whether it can be done is not asked, nor is check.Net.
	isRead(t, api.Run{Steps: []api.Step{{Delay: frac(t, "99")}, {Delay: frac(t, "0")}}, Last: frac(t, "0")}, api.OK, 0)(Parse(diagonal(t), "99 A.0\n0 A.0\n0 end\n"))
	for _, n := range wrongNets(t) {
		for _, s := range []string{"", "0 end\n", "x", "1 A.1\n0 end\n", "1 A.1\n"} {
			isRead(t, api.Run{}, api.ErrForm, 0)(Parse(n, s))
		}
	}
}

// TestP20_4Lines: a line that is none, at each place.
func TestP20_4Lines(t *testing.T) {
	n := said(t, rich)
	bad := []string{"", " ", "  ", "1", "1 ", " A.1", "A.1", "end", " end", "1 end ", "1  end", "1 End", "1 ende", "1 en", "1\tend", "1 end\r", "1\u00a0end", "1 A.1 ", "1  A.1", " 1 A.1", "1 A.1\r", "1 A.1\t", "1\tA.1", "1 A.1;", "1 A", "1 A.", "1 .1", "1 A.3", "1 A.-1", "1 A.01", "1 A.+1", "1 A.0", "1 end.0", "1 A.2", "1 a.1", "1 x.0", "1 B.0", "1 A.1.1", "1 A.1, A.1", "1 A.1,A.1", "1 A.1, ", "1 , ", "1 A.0 end.1", "1 end.0 A.0", "1 A.0  end.0", "1 A.0 end.0 end.0", "1 A.0 end", "1 A.1 end", "1 end A.1", "1 end.1 end", "1 1 A.1",
		"-1 A.1", "-1/2 A.1", "-1 end", "-0 A.1", "+1 A.1", "01 A.1", "00 end", "2/4 A.1", "1/1 A.1", "0/1 end", "0/2 A.1", "1/0 A.1", "1/-2 A.1", "1/02 A.1", "1/ A.1", "/2 A.1", "/ A.1", "1/2/3 A.1", "1 /2 A.1", "1/ 2 end", "1.5 A.1", "1e3 A.1", "0x1 A.1", "1_0 A.1", "x A.1", "9223372036854775808 A.1", "1/9223372036854775808 A.1", "18446744073709551617 end", "-9223372036854775808 end", "\xff A.1", "1 \xff", "1 A.1\x00", "\ufeff1 A.1", "1 A.18446744073709551617"}
	for at := range len(good()) {
		for _, line := range bad {
			l := good()
			l[at] = line
			isRead(t, api.Run{}, api.ErrSyntax, at+1)(Parse(n, strings.Join(l, "\n")+"\n"))
			// What is behind it does not matter.
			isRead(t, api.Run{}, api.ErrSyntax, at+1)(Parse(n, strings.Join(append(l, "", line), "\n")))
			isRead(t, api.Run{}, api.ErrSyntax, at+1)(Parse(n, strings.Join(l[:at+1], "\n")+"\n"))
		}
	}
}

// TestP20_4End: without the last line feed, without the line end, with lines behind it.
func TestP20_4End(t *testing.T) {
	n := said(t, rich)
	text := strings.Join(good(), "\n")
	isRead(t, api.Run{}, api.ErrSyntax, 5)(Parse(n, text))
	// A text that ends ahead of its line end: one more than it has lines.
	isRead(t, api.Run{}, api.ErrSyntax, 1)(Parse(n, ""))
	for k := range good() {
		isRead(t, api.Run{}, api.ErrSyntax, k+1)(Parse(n, strings.Join(append(good()[:k:k], ""), "\n")))
		// A line that is not ended by a line feed is no such line, be it right else or not.
		isRead(t, api.Run{}, api.ErrSyntax, k+1)(Parse(n, strings.Join(good()[:k+1], "\n")))
		isRead(t, api.Run{}, api.ErrSyntax, k+1)(Parse(n, strings.Join(append(good()[:k:k], "1"), "\n")))
	}
	// Lines behind the end.
	for _, more := range []string{"\n", " ", "0 end\n", "0 end", "1 A.1\n", "x", "\n\n", "\r\n", "\x00"} {
		isRead(t, api.Run{}, api.ErrSyntax, 6)(Parse(n, text+"\n"+more))
		isRead(t, api.Run{}, api.ErrSyntax, 2)(Parse(n, "0 end\n"+more))
	}
	// The end ahead of the end.
	l := slices.Insert(good(), 2, "3 end")
	isRead(t, api.Run{}, api.ErrSyntax, 4)(Parse(n, strings.Join(l, "\n")+"\n"))
	isRead(t, api.Run{}, api.ErrSyntax, 1)(Parse(n, "\n"+text+"\n"))
	isRead(t, api.Run{}, api.ErrSyntax, 1)(Parse(n, "0 end\r\n"))
	isRead(t, api.Run{}, api.ErrSyntax, 1)(Parse(n, "0 end"))
}

// TestP20_4Long: more steps than may be: ErrLong, if nothing else is wrong.
func TestP20_4Long(t *testing.T) {
	n := said(t, small)
	lines := func(many int) string { return strings.Repeat("1 A.0\n", many) }
	isRead(t, long(api.MaxZones), api.OK, 0)(Parse(n, lines(api.MaxZones)+"0 end\n"))
	isRead(t, api.Run{}, api.ErrLong, 0)(Parse(n, lines(api.MaxZones+1)+"0 end\n"))
	isRead(t, api.Run{}, api.ErrLong, 0)(Parse(n, lines(api.MaxZones+900)+"0 end\n"))
	// MaxZones left aside: the line that is none is told, far behind too.
	isRead(t, api.Run{}, api.ErrSyntax, api.MaxZones+2)(Parse(n, lines(api.MaxZones+1)))
	isRead(t, api.Run{}, api.ErrSyntax, api.MaxZones+2)(Parse(n, lines(api.MaxZones+1)+"0 end"))
	isRead(t, api.Run{}, api.ErrSyntax, api.MaxZones+3)(Parse(n, lines(api.MaxZones+1)+"0 end\n\n"))
	isRead(t, api.Run{}, api.ErrSyntax, api.MaxZones+200)(Parse(n, lines(api.MaxZones+199)+"1 A.1\n0 end\n"))
	isRead(t, api.Run{}, api.ErrSyntax, 3)(Parse(n, lines(2)+"x\n"+lines(api.MaxZones+1)+"0 end\n"))
}

// TestP3Lists: what is handed in stays as it is, spare room too; what is answered is the caller's.
func TestP3Lists(t *testing.T) {
	n := said(t, rich)
	whole := timed(t, 0, "1 2 3 4 5 6 7")
	before := fmt.Sprint(n, whole)
	r := api.Run{Steps: whole.Steps[:3], Last: whole.Last}
	moves, times := way(0, 6), fracs(t, "1 2 3 4 5 6 7")
	runs := []api.Run{r, {Last: frac(t, "1")}, r, timed(t, 2, "1 1"), timed(t, 0, "9 9 9")}
	empty := api.Run{Steps: whole.Steps[:0], Last: whole.Last}
	var answers []any
	for range 2 {
		l, _ := Times(r)
		made, _ := OfTimes(moves[:3], times[:4])
		all, _ := Join(r, runs[:4]...)
		one, _ := Join(r)
		behind, _ := Join(empty, r)
		ahead, _ := Join(r, empty)
		read, _, _ := Parse(n, "1 A.1\n2 A.1\n0 end\n")
		Right(n, r)
		Same(r, runs[2])
		Print(n, r)
		answers = append(answers, Moves(r), l, made, all, one, behind, ahead, read, Cut(r, 0), Cut(r, 2), Cut(r, 3), Cut(r, 4), Cut(empty, 3), Cut(empty, 0))
	}
	if shared(append(answers, whole, moves, times, n, runs[3], runs[4])...) {
		t.Error("shared")
	}
	for _, a := range answers {
		switch x := a.(type) {
		case []api.Move:
			clear(x[:cap(x)])
		case []api.Rat:
			clear(x[:cap(x)])
		case api.Run:
			clear(x.Steps[:cap(x.Steps)])
		}
	}
	if fmt.Sprint(n, whole) != before || !slices.Equal(moves, way(0, 6)) || !slices.Equal(times, fracs(t, "1 2 3 4 5 6 7")) {
		t.Error("changed")
	}
	if !Same(runs[3], timed(t, 2, "1 1")) || !Same(runs[4], timed(t, 0, "9 9 9")) {
		t.Error("changed")
	}
}

// TestP1Any: nothing panics, whatever it is given, and beside an error there is nothing.
func TestP1Any(t *testing.T) {
	r := source(14)
	wild := []int{math.MinInt, -1 << 32, -2, -1, 0, 0, 0, 0, 0, 1, 1, 1, 1, 1, 2, 2, 3, 255, 1 << 32, math.MaxInt}
	any := func() int { return wild[r.IntN(len(wild))] }
	anyRun := func() api.Run {
		l := api.Run{Last: api.Rat{Num: int64(any()), Den: int64(any())}}
		for range r.IntN(3) {
			l.Steps = append(l.Steps, api.Step{Delay: api.Rat{Num: int64(any()), Den: int64(any())}, Move: api.Move{Auto: any() * r.IntN(2), Edge: any(), With: any() * r.IntN(2), Take: any() * r.IntN(2)}})
		}
		return l
	}
	nets := append(wrongNets(t), said(t, rich), said(t, small), diagonal(t), said(t, rich), said(t, rich), said(t, rich))
	counts := map[api.Errno]int{}
	for range 20000 {
		n, x := nets[r.IntN(len(nets))], anyRun()
		err := Right(n, x)
		counts[err]++
		text, err2 := Print(n, x)
		if err != err2 || (err == api.OK) != (text != "") {
			t.Fatal(x, err, err2)
		}
		l, err := Times(x)
		if (err == api.OK) != (l != nil) {
			t.Fatal(x, l, err)
		}
		made, err := OfTimes(Moves(x), append(l, x.Last)[:r.IntN(len(l)+2)])
		if err != api.OK && (made.Steps != nil || made.Last != (api.Rat{})) {
			t.Fatal(made, err)
		}
		joined, err := Join(x, anyRun(), anyRun(), x)
		if err != api.OK && (joined.Steps != nil || joined.Last != (api.Rat{})) {
			t.Fatal(joined, err)
		}
		Cut(x, any())
		bytes := []byte(text + "1 A.1\n0 end\n")
		bytes[r.IntN(len(bytes))] = byte(r.IntN(256))
		read, err, line := Parse(n, string(bytes))
		if err == api.OK && line != 0 || err == api.ErrSyntax && (line < 1 || line > len(x.Steps)+4) || err != api.OK && (read.Steps != nil || read.Last != (api.Rat{})) {
			t.Fatal(read, err, line)
		}
	}
	if counts[api.OK] < 100 || counts[api.ErrMove] < 500 || counts[api.ErrDelay] < 300 || counts[api.ErrForm] < 500 {
		t.Error(counts)
	}
	if !slices.Equal(moves.All(said(t, rich)), way(0, len(richMoves))) {
		t.Error("the tests' own moves are not those of the network")
	}
}
