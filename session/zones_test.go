package session

import (
	"math"
	"reflect"
	"slices"
	"testing"

	"gnomon/api"
	"gnomon/dbm"
	"gnomon/extra"
	"gnomon/ops"
)

// TestP27Examples: that of zones, by hand; and the first ones of DOC.md about zones.
func TestP27Examples(t *testing.T) {
	areTold(t, Told{Cells: []api.Bound{1, 1, api.Inf, 1}}, Told{Cells: []api.Bound{1, 1, 11, 1}}, Told{Yes: true})(Zones(1, []Call{{Kind: 1}, {Kind: 5, A: 1, I: 1, Bound: 11}, {Kind: 9, A: 1, B: 2}}))
	areTold(t,
		Told{Cells: []api.Bound{1, 1, 1, 1, 1, 1, 1, 1, 1}},
		Told{Cells: []api.Bound{1, 1, 1, api.Inf, 1, 1, api.Inf, 1, 1}},
		Told{Cells: []api.Bound{1, 1, 1, 6, 1, 1, 6, 1, 1}},
		Told{Cells: []api.Bound{1, 1, 1, 6, 1, 1, 6, 1, 1}},
		Told{Yes: true}, Told{}, Told{},
	)(Zones(2, []Call{{}, {Kind: 1, A: 1}, {Kind: 5, A: 2, I: 1, Bound: 6}, {Kind: 5, A: 3, I: 1, Bound: 7}, {Kind: 10, A: 3, B: 4}, {Kind: 10, A: 2, B: 3}, {Kind: 11, A: 4}}))
}

// TestP27_1Clocks: numbers of clocks that are none: ErrClock, ahead of all else.
func TestP27_1Clocks(t *testing.T) {
	for _, n := range []int{math.MinInt, -1 << 32, -9, -1, api.MaxClocks + 1, api.MaxClocks + 2, 256, 1 << 32, math.MaxInt} {
		for _, l := range [][]Call{nil, {}, {{}}, {{Kind: 99}}, {{Kind: 1, A: 9}}, make([]Call, api.MaxOps), make([]Call, api.MaxOps+1)} {
			isRefused(t, api.ErrClock)(Zones(n, l))
		}
	}
	for n := range api.MaxClocks + 1 {
		areTold(t)(Zones(n, nil))
		areTold(t)(Zones(n, []Call{}))
		areTold(t, made(dbm.Zero(n)))(Zones(n, []Call{{}}))
	}
}

// TestP27_1Many: no call, one, MaxOps and one more.
func TestP27_1Many(t *testing.T) {
	for _, n := range []int{0, 1, api.MaxClocks} {
		all := make([]Call, api.MaxOps)
		for i := range all {
			// Each but the first one works on the zone that was made just ahead of it.
			all[i] = Call{Kind: []int{0, 1, 2}[i%3], A: i}
		}
		l, err := Zones(n, all)
		if err != api.OK || len(l) != api.MaxOps || !isAlike(l, wantZones(n, all)) {
			t.Error(n, len(l), err)
		}
		for _, told := range l {
			if told.Errno != api.OK || len(told.Cells) != (n+1)*(n+1) {
				t.Fatal(told)
			}
		}
		isRefused(t, api.ErrLong)(Zones(n, append(all, Call{})))
		isRefused(t, api.ErrLong)(Zones(n, append(all, Call{Kind: 99})))
		isRefused(t, api.ErrLong)(Zones(n, make([]Call, 3*api.MaxOps)))
	}
}

// TestP27_1Kinds: each Kind, on zones that are like no other one.
func TestP27_1Kinds(t *testing.T) {
	u, _ := dbm.Universe(2)
	a := zone(t, u, api.OK)
	c := func(l ...api.Limit) *dbm.Zone {
		z, err := dbm.Limits(2, l...)
		return zone(t, z, err)
	}
	// The row: the universe, x1 at most 5 and x2 at least 2, x2 less x1 less than 3 and x1 at least 4.
	p, q := c(api.Limit{I: 1, Bound: atMost(5)}, api.Limit{J: 2, Bound: atMost(-2)}), c(api.Limit{I: 2, J: 1, Bound: lessThan(3)}, api.Limit{J: 1, Bound: atMost(-4)})
	ahead := []Call{{Kind: 5, I: 1, Bound: atMost(5)}, {Kind: 5, A: 1, J: 2, Bound: atMost(-2)}, {Kind: 5, I: 2, J: 1, Bound: lessThan(3)}, {Kind: 5, A: 3, J: 1, Bound: atMost(-4)}}
	const atP, atQ = 2, 4
	for _, w := range []struct {
		c    Call
		want Told
	}{
		{Call{Kind: 0}, made(dbm.Zero(2))},
		{Call{Kind: 1, A: atP}, made(ops.Up(p))}, {Call{Kind: 1, A: atQ}, made(ops.Up(q))}, {Call{Kind: 1}, made(a, api.OK)},
		{Call{Kind: 2, A: atP}, made(ops.Down(p))}, {Call{Kind: 2, A: atQ}, made(ops.Down(q))},
		{Call{Kind: 3, A: atP, I: 2, N: 7}, made(ops.Reset(p, 2, 7))}, {Call{Kind: 3, A: atQ, I: 1}, made(ops.Reset(q, 1, 0))}, {Call{Kind: 3, A: atQ, I: 1, N: api.MaxConst}, made(ops.Reset(q, 1, api.MaxConst))},
		{Call{Kind: 4, A: atP, I: 1}, made(ops.Free(p, 1))}, {Call{Kind: 4, A: atQ, I: 2}, made(ops.Free(q, 2))},
		{Call{Kind: 5, A: atP, I: 2, J: 1, Bound: 3}, made(ops.Constrain(p, api.Limit{I: 2, J: 1, Bound: 3}))}, {Call{Kind: 5, A: atP, I: 1, J: 2, Bound: 3}, made(ops.Constrain(p, api.Limit{I: 1, J: 2, Bound: 3}))}, {Call{Kind: 5, A: atQ, Bound: -1}, Told{Cells: make([]api.Bound, 9)}}, {Call{Kind: 5, A: atQ, I: 1, Bound: api.Inf}, made(q, api.OK)},
		{Call{Kind: 6, A: atP, B: atQ}, made(ops.And(p, q))}, {Call{Kind: 6, A: atP}, made(p, api.OK)}, {Call{Kind: 6, B: atQ}, made(q, api.OK)},
		{Call{Kind: 7, A: atP, Numbers: []int{3, 1}}, made(extra.Max(p, []int{3, 1}))}, {Call{Kind: 7, A: atQ, Numbers: []int{-1, 2}}, made(extra.Max(q, []int{-1, 2}))},
		{Call{Kind: 8, Numbers: []int{1, 1, -3, 9, 1, 7, math.MaxInt32, 5, 1}}, made(dbm.Of(2, []api.Bound{1, 1, -3, 9, 1, 7, api.Inf, 5, 1}))}, {Call{Kind: 8, Numbers: make([]int, 9)}, Told{Cells: make([]api.Bound, 9)}},
		{Call{Kind: 9, A: atP, B: atQ}, said(false)}, {Call{Kind: 9, B: atQ}, said(true)}, {Call{Kind: 9, A: atQ}, said(false)}, {Call{Kind: 9, A: atQ, B: atQ}, said(true)}, {Call{Kind: 9, A: 1, B: atP}, said(true)}, {Call{Kind: 9, A: atP, B: 1}, said(false)},
		{Call{Kind: 10, A: atP, B: atQ}, said(false)}, {Call{Kind: 10, A: atP, B: atP}, said(true)}, {Call{Kind: 10}, said(true)}, {Call{Kind: 10, A: 1, B: atP}, said(false)}, {Call{Kind: 10, A: atP, B: 1}, said(false)},
		{Call{Kind: 11}, said(false)}, {Call{Kind: 11, A: atP}, said(false)},
		{Call{Kind: 12, A: atP, Numbers: []int{3, 1, 0, 4}}, made(extra.LU(p, []int{3, 1}, []int{0, 4}))}, {Call{Kind: 12, A: atQ, Numbers: []int{-1, 2, 5, -1}}, made(extra.LU(q, []int{-1, 2}, []int{5, -1}))},
	} {
		l, err := Zones(2, append(ahead, w.c))
		if err != api.OK || len(l) != len(ahead)+1 {
			t.Fatal(l, err)
		}
		areTold(t, w.want)(l[len(ahead):], err)
		if !slices.Equal(l[atP-1].Cells, p.Cells()) || !slices.Equal(l[atQ-1].Cells, q.Cells()) {
			t.Fatal(l)
		}
	}
	areTold(t, Told{Cells: make([]api.Bound, 4)}, said(true), said(true), said(false))(Zones(1, []Call{{Kind: 8, Numbers: make([]int, 4)}, {Kind: 11, A: 1}, {Kind: 9, B: 1}, {Kind: 9, A: 1}}))
}

// TestP27_1NoKind: Kinds that are none: ErrForm, whatever else is wrong.
func TestP27_1NoKind(t *testing.T) {
	for _, kind := range noKinds() {
		for _, c := range []Call{{}, {A: 9, B: 9}, {A: -1}, {I: 1, Numbers: []int{1 << 40}}, {A: math.MinInt, I: -1, N: -1, Bound: api.Inf - 1}} {
			c.Kind = kind
			areTold(t, Told{Errno: api.ErrForm}, said(false), Told{Errno: api.ErrNone})(Zones(1, []Call{c, {Kind: 11}, {Kind: 11, A: 1}}))
		}
	}
}

// TestP27_1NoZone: an A, a B that is no zone's number: ErrNone, where the call needs one; ahead of the call's own errors.
func TestP27_1NoZone(t *testing.T) {
	none := Told{Errno: api.ErrNone}
	for kind, needs := range []int{0, 1, 1, 1, 1, 1, 2, 1, 0, 2, 2, 1, 1} {
		for _, number := range noNumbers(3) {
			// Two zones were made ahead of it.
			try := func(c Call) Told {
				c.Kind = kind
				l, err := Zones(1, []Call{{}, {Kind: 1, A: 1}, c})
				if err != api.OK || len(l) != 3 {
					t.Fatal(l, err)
				}
				return l[2]
			}
			// Some with numbers for which the call would have an error too.
			for _, c := range []Call{{}, {I: 9, N: -1, Bound: api.Inf - 1, Numbers: []int{1 << 40}}, {I: 1, Numbers: []int{1, 2, 3, 4}}} {
				c.A, c.B = number, 2
				if got := try(c); (got.Errno == api.ErrNone) != (needs > 0) || needs > 0 && !isAlike([]Told{got}, []Told{none}) {
					t.Error(kind, number, got)
				}
				c.A, c.B = 2, number
				if got := try(c); (got.Errno == api.ErrNone) != (needs > 1) || needs > 1 && !isAlike([]Told{got}, []Told{none}) {
					t.Error(kind, number, got)
				}
				c.A, c.B = number, number
				if got := try(c); (got.Errno == api.ErrNone) != (needs > 0) {
					t.Error(kind, number, got)
				}
				c.A, c.B = 2, 0
				if got := try(c); got.Errno == api.ErrNone {
					t.Error(kind, number, got)
				}
			}
		}
	}
}

// TestP27_1Errors: each error of the calls; with it nothing is made, and the row stays as long as it was.
func TestP27_1Errors(t *testing.T) {
	great := Call{Kind: 5, I: 1, J: 2, Bound: atMost(api.MaxBound)}
	for _, w := range []struct {
		c    Call
		want api.Errno
	}{
		{Call{Kind: 3, I: 0}, api.ErrClock}, {Call{Kind: 3, I: 3}, api.ErrClock}, {Call{Kind: 3, I: -1, N: -1}, api.ErrClock}, {Call{Kind: 3, I: 1, N: -1}, api.ErrConst}, {Call{Kind: 3, I: 2, N: api.MaxConst + 1}, api.ErrConst}, {Call{Kind: 3, I: 1, N: math.MaxInt}, api.ErrConst}, {Call{Kind: 3, I: math.MaxInt}, api.ErrClock},
		{Call{Kind: 4}, api.ErrClock}, {Call{Kind: 4, I: 3}, api.ErrClock}, {Call{Kind: 4, I: math.MinInt}, api.ErrClock},
		{Call{Kind: 5, I: -1}, api.ErrClock}, {Call{Kind: 5, J: 3}, api.ErrClock}, {Call{Kind: 5, I: 3, Bound: api.Inf - 1}, api.ErrClock}, {Call{Kind: 5, I: 1, Bound: api.Inf - 1}, api.ErrRange}, {Call{Kind: 5, I: 1, Bound: math.MinInt32}, api.ErrRange}, {Call{Kind: 5, A: 1, I: 2, Bound: atMost(1)}, api.ErrBound},
		{Call{Kind: 6, A: 1, B: 2}, api.ErrBound}, {Call{Kind: 6, A: 2, B: 1}, api.ErrBound},
		{Call{Kind: 7}, api.ErrLong}, {Call{Kind: 7, Numbers: []int{1}}, api.ErrLong}, {Call{Kind: 7, Numbers: []int{-9, 1, 1}}, api.ErrLong}, {Call{Kind: 7, Numbers: []int{1, -2}}, api.ErrConst}, {Call{Kind: 7, Numbers: []int{api.MaxConst + 1, 1}}, api.ErrConst},
		{Call{Kind: 8}, api.ErrLong}, {Call{Kind: 8, Numbers: make([]int, 8)}, api.ErrLong}, {Call{Kind: 8, Numbers: make([]int, 10)}, api.ErrLong}, {Call{Kind: 8, Numbers: []int{1, 1, 1, 1, 1, 1, 1, 1, math.MaxInt32 - 1}}, api.ErrForm}, {Call{Kind: 8, Numbers: []int{math.MinInt32, 1, 1, 1, 1, 1, 1, 1, 1}}, api.ErrForm}, {Call{Kind: 8, Numbers: []int{1, 1, 1, int(atMost(api.MaxBound)), 1, math.MaxInt32, math.MaxInt32, 3, 1}}, api.ErrBound},
		{Call{Kind: 12}, api.ErrLong}, {Call{Kind: 12, Numbers: []int{1}}, api.ErrLong}, {Call{Kind: 12, Numbers: []int{1, 2}}, api.ErrLong}, {Call{Kind: 12, Numbers: []int{1, 2, 3}}, api.ErrLong}, {Call{Kind: 12, Numbers: []int{1, 2, 3, 4, 5}}, api.ErrLong}, {Call{Kind: 12, Numbers: []int{1, 2, 3, 4, 5, 6}}, api.ErrLong}, {Call{Kind: 12, Numbers: []int{-2, 2, 3, 4}}, api.ErrConst}, {Call{Kind: 12, Numbers: []int{1, 2, 3, api.MaxConst + 1}}, api.ErrConst},
		// An odd number of them has no halves: that comes first, whatever they are.
		{Call{Kind: 12, Numbers: []int{-2, -2, -2, -2, -2}}, api.ErrLong}, {Call{Kind: 12, Numbers: []int{-9, -9, 1}}, api.ErrLong},
	} {
		// The zone 1 has x1 less x2 at most MaxBound, the zone 2 has x2 at most 1.
		l := []Call{great, {Kind: 5, I: 2, Bound: atMost(1)}, w.c, {Kind: 0}, {Kind: 10, A: 3, B: 3}, {Kind: 11, A: 4}, w.c}
		u, _ := dbm.Universe(2)
		areTold(t, made(ops.Constrain(u, api.Limit{I: 1, J: 2, Bound: atMost(api.MaxBound)})), made(ops.Constrain(u, api.Limit{I: 2, Bound: atMost(1)})), Told{Errno: w.want}, made(dbm.Zero(2)), said(true), Told{Errno: api.ErrNone}, Told{Errno: w.want})(Zones(2, l))
	}
}

// TestP27_1Bits: numbers that are no 32 bits are no bounds, though their last 32 bits would be; those that are just so are handed on.
func TestP27_1Bits(t *testing.T) {
	for _, x := range []int{math.MinInt, -1 << 32, -1<<32 + 1, math.MinInt32 - 1, math.MaxInt32 + 1, 1<<32 - 1, 1 << 32, 1<<32 + 1, 1<<33 + 11, math.MaxInt} {
		for at := range 4 {
			numbers := []int{1, 1, 11, 1}
			numbers[at] = x
			areTold(t, Told{Errno: api.ErrForm})(Zones(1, []Call{{Kind: 8, Numbers: numbers}}))
		}
		// They can't be handed on: so that is told, however many there are.
		areTold(t, Told{Errno: api.ErrForm}, Told{Errno: api.ErrForm})(Zones(1, []Call{{Kind: 8, Numbers: []int{x}}, {Kind: 8, Numbers: []int{1, 1, 11, 1, x}}}))
	}
	areTold(t, Told{Cells: []api.Bound{1, 1, api.Inf, 1}}, Told{Errno: api.ErrForm}, Told{Errno: api.ErrForm})(Zones(1, []Call{{Kind: 8, Numbers: []int{1, 1, math.MaxInt32, 1}}, {Kind: 8, Numbers: []int{1, 1, math.MinInt32, 1}}, {Kind: 8, Numbers: []int{1, 1, math.MaxInt32 - 1, 1}}}))
}

// TestP27_1Model: scripts at random, held against the table.
func TestP27_1Model(t *testing.T) {
	r := source(1)
	counts, kinds := map[api.Errno]int{}, map[int]int{}
	yes := 0
	for k := range 4000 {
		n := k % (api.MaxClocks + 1)
		l := someScript(r, n, r.IntN(40))
		want := wantZones(n, l)
		areTold(t, want...)(Zones(n, l))
		if t.Failed() {
			t.Fatal(n, l)
		}
		for i, told := range want {
			if counts[told.Errno]++; told.Errno == api.OK {
				kinds[l[i].Kind]++
			}
			if told.Yes {
				yes++
			}
		}
	}
	for _, err := range []api.Errno{api.OK, api.ErrForm, api.ErrNone, api.ErrClock, api.ErrConst, api.ErrRange, api.ErrLong, api.ErrBound} {
		if counts[err] < 100 {
			t.Error(err, counts)
		}
	}
	for kind := range 13 {
		if kinds[kind] < 500 {
			t.Error(kind, kinds)
		}
	}
	if yes < 1000 {
		t.Error(yes)
	}
}

// TestP27_3Cut (E10): a script that is cut tells the same up to there.
func TestP27_3Cut(t *testing.T) {
	r := source(2)
	for k := range 300 {
		n := k % (api.MaxClocks + 1)
		l := someScript(r, n, 30)
		whole, err := Zones(n, l)
		if err != api.OK {
			t.Fatal(err)
		}
		for i := range l {
			areTold(t, whole[:i]...)(Zones(n, l[:i]))
		}
		// What stands behind it plays no part, even if it is wrong.
		areTold(t, append(slices.Clone(whole), Told{Errno: api.ErrForm}, Told{Errno: api.ErrNone})...)(Zones(n, append(slices.Clone(l), Call{Kind: -1}, Call{Kind: 1, A: -1})))
		if t.Failed() {
			t.Fatal(n, l)
		}
	}
}

// longOf is how long the row is when a script has told something.
func longOf(l []Told) int {
	long := 1
	for _, told := range l {
		if len(told.Cells) > 0 {
			long++
		}
	}
	return long
}

// TestP27_4Behind: a script that is done behind another one, on a universe that stands elsewhere in the row, makes the same.
func TestP27_4Behind(t *testing.T) {
	r := source(3)
	tried := 0
	for k := range 600 {
		n := k % (api.MaxClocks + 1)
		ahead, l := someScript(r, n, r.IntN(20)), someScript(r, n, 25)
		first, err := Zones(n, ahead)
		if err != api.OK {
			t.Fatal(err)
		}
		want, err := Zones(n, l)
		if err != api.OK {
			t.Fatal(err)
		}
		long := longOf(first)
		moved := append(slices.Clone(ahead), Call{Kind: 1})
		for i, c := range l {
			// A number that is none must stay so: those below 0, and those above the row.
			if c.A >= 0 && c.A < 1<<20 {
				c.A += long
			}
			if c.B >= 0 && c.B < 1<<20 {
				c.B += long
			}
			if want[i].Errno == api.OK {
				tried++
			}
			moved = append(moved, c)
		}
		// Up of the universe is the universe: it stands at the end of the first row.
		got, err := Zones(n, moved)
		if err != api.OK || len(got) != len(moved) {
			t.Fatal(got, err)
		}
		areTold(t, want...)(got[len(ahead)+1:], err)
		if t.Failed() {
			t.Fatal(n, ahead, l)
		}
	}
	if tried < 5000 {
		t.Error(tried)
	}
}

// TestP27_4Same: zones that are the same, made again at the end of the row by their cells, have the same made of them.
func TestP27_4Same(t *testing.T) {
	r := source(4)
	for k := range 600 {
		n := k % 5
		l := someScript(r, n, 12)
		told, err := Zones(n, l)
		if err != api.OK {
			t.Fatal(err)
		}
		var rows [][]api.Bound
		u, _ := dbm.Universe(n)
		rows = append(rows, u.Cells())
		for _, x := range told {
			if len(x.Cells) > 0 {
				rows = append(rows, x.Cells)
			}
		}
		long := len(rows)
		for _, cells := range rows {
			var numbers []int
			for _, b := range cells {
				numbers = append(numbers, int(b))
			}
			l = append(l, Call{Kind: 8, Numbers: numbers})
		}
		for range 10 {
			c := someCall(r, n, long)
			d := c
			if c.A >= 0 && c.A < long {
				d.A += long
			}
			if c.B >= 0 && c.B < long {
				d.B += long
			}
			one, err := Zones(n, append(slices.Clone(l), c))
			two, no := Zones(n, append(slices.Clone(l), d))
			if err != api.OK || no != api.OK || !isAlike(one, two) {
				t.Fatal(n, l, c, d, one[len(one)-1], two[len(two)-1])
			}
		}
	}
}

// TestP27P3Zones: what is handed in stays as it is, spare room too; what is told is the caller's.
func TestP27P3Zones(t *testing.T) {
	r := source(5)
	for k := range 200 {
		n := k % 4
		l := someScript(r, n, 20)
		for i := range l {
			l[i].Numbers = slices.Grow(l[i].Numbers, 3)
			copy(l[i].Numbers[len(l[i].Numbers):cap(l[i].Numbers)], []int{77, 78, 79})
		}
		l = slices.Grow(l, 2)
		room := l[:cap(l)]
		room[len(l)] = Call{Kind: 55}
		before := deep(room)
		told, err := Zones(n, l)
		if err != api.OK || !reflect.DeepEqual(deep(room), before) {
			t.Fatal(l, before)
		}
		again, _ := Zones(n, l)
		if shared(told, again, l) {
			t.Fatal("shared", told)
		}
		// Nothing that is done with what was told shows in what is told again.
		for i := range told {
			told[i].Errno = 99
			for j := range told[i].Cells {
				told[i].Cells[j] = 77
			}
		}
		areTold(t, again...)(Zones(n, l))
	}
}

// deep is a copy of calls, with the spare room of their lists.
func deep(l []Call) []Call {
	out := slices.Clone(l)
	for i, c := range l {
		out[i].Numbers = slices.Clone(c.Numbers[:cap(c.Numbers)])
	}
	return out
}

// TestP27P1Zones: any numbers at all: nothing breaks.
func TestP27P1Zones(t *testing.T) {
	r := source(6)
	any := func() int {
		return []int{0, 1, 2, -1, r.Int(), -r.Int(), math.MinInt, math.MaxInt, api.MaxConst, 1 << 31, 1 << 32, r.IntN(20)}[r.IntN(12)]
	}
	for range 3000 {
		var l []Call
		for range r.IntN(12) {
			c := Call{Kind: r.IntN(15) - 1, A: any() % 4, B: any(), I: any(), J: any(), N: any(), Bound: api.Bound(r.Uint32())}
			for range r.IntN(10) {
				c.Numbers = append(c.Numbers, any())
			}
			l = append(l, c)
		}
		n := r.IntN(12) - 1
		told, err := Zones(n, l)
		if n < 0 || n > api.MaxClocks {
			isRefused(t, api.ErrClock)(told, err)
			continue
		}
		areTold(t, wantZones(n, l)...)(told, err)
		for _, x := range told {
			if x.Errno != api.OK && (x.Yes || len(x.Cells) != 0) || len(x.Cells) != 0 && x.Yes {
				t.Fatal(x)
			}
		}
	}
}
