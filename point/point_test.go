package point

import (
	"math"
	"math/big"
	"slices"
	"strings"
	"testing"

	"gnomon/api"
	"gnomon/dbm"
	"gnomon/ops"
	"gnomon/rat"
)

// noClocks are numbers that stand for no clock of n that can be set.
func noClocks(n int) []int {
	return []int{math.MinInt, -1 << 32, -1, 0, n + 1, api.MaxClocks + 1, 1 << 32, 1<<32 + 1, math.MaxInt}
}

func TestP6_1Right(t *testing.T) {
	for n := 0; n <= api.MaxClocks; n++ {
		for _, r := range append(great(), f(1, 2), f(7, 3)) {
			if !Right(slices.Repeat([]api.Rat{r}, n)) {
				t.Error(n, r)
			}
		}
	}
	if !Right(nil) || !Right([]api.Rat{}) {
		t.Error("of no clocks")
	}
	for _, v := range wrongOnes() {
		if Right(v) {
			t.Error(v)
		}
	}
}

// TestP6_1In: In and Breaks against exact numbers.
func TestP6_1In(t *testing.T) {
	in, out := 0, 0
	check := func(z *dbm.Zone, v []api.Rat) {
		l, broken := firstBroken(z, exactly(v))
		if got, ok := Breaks(z, v); got != l || ok != broken {
			t.Error("Breaks", z.Print(), v, got, ok, l, broken)
		}
		if In(z, v) == broken {
			t.Error("In", z.Print(), v)
		}
		if broken {
			out++
		} else {
			in++
		}
	}
	each(t, 60, func(_ source, z *dbm.Zone, l [][]api.Rat) {
		for _, v := range l {
			check(z, v)
		}
	})
	for _, z := range greatZones(t) {
		for _, a := range great() {
			for _, b := range great() {
				check(z, []api.Rat{a, b})
			}
		}
	}
	if in < 1000 || out < 1000 {
		t.Error("few", in, out)
	}
}

// TestP6_1Cases: the example, and edges.
func TestP6_1Cases(t *testing.T) {
	zero := must(t)(dbm.Zero(2))
	strict := limited(t, 1, api.Limit{I: 1, Bound: lessThan(8)}, api.Limit{J: 1, Bound: lessThan(-7)})
	wide := limited(t, 2, api.Limit{I: 1, J: 2, Bound: most - 1}, api.Limit{I: 2, J: 1, Bound: most})
	for _, x := range []struct {
		z     *dbm.Zone
		v     []api.Rat
		want  api.Limit
		wrong bool
	}{
		{zero, whole(0, 1), api.Limit{I: 2, Bound: 1}, true}, {zero, whole(1, 0), api.Limit{I: 1, Bound: 1}, true}, {zero, whole(1, 1), api.Limit{I: 1, Bound: 1}, true}, {zero, whole(0, 0), api.Limit{}, false},
		{strict, whole(7), api.Limit{J: 1, Bound: lessThan(-7)}, true}, {strict, whole(8), api.Limit{I: 1, Bound: lessThan(8)}, true}, {strict, []api.Rat{f(15, 2)}, api.Limit{}, false},
		{strict, []api.Rat{f(7*(top/8)+1, top/8)}, api.Limit{}, false}, {strict, []api.Rat{f(top-8, top/8)}, api.Limit{}, false},
		{wide, whole(api.MaxBound, 0), api.Limit{I: 1, J: 2, Bound: most - 1}, true}, {wide, whole(0, api.MaxBound), api.Limit{}, false},
		{wide, whole(top, top-api.MaxBound), api.Limit{I: 1, J: 2, Bound: most - 1}, true}, {wide, whole(top-api.MaxBound, top), api.Limit{}, false}, {wide, whole(0, top), api.Limit{I: 2, J: 1, Bound: most}, true},
		{wide, whole(top-1, top-api.MaxBound), api.Limit{}, false}, {wide, []api.Rat{f(1, top), f(api.MaxBound, 1)}, api.Limit{}, false}, {wide, []api.Rat{f(1, top), f(2, top-2)}, api.Limit{}, false},
		{empty(t, 0), nil, api.Limit{}, true}, {empty(t, 1), whole(0), api.Limit{}, true}, {empty(t, 8), whole(0, 0, 0, 0, 0, 0, 0, 0), api.Limit{}, true},
		{must(t)(dbm.Universe(0)), nil, api.Limit{}, false}, {must(t)(dbm.Universe(1)), whole(top), api.Limit{}, false}, {must(t)(dbm.Zero(8)), whole(0, 0, 0, 0, 0, 0, 0, 0), api.Limit{}, false},
		{must(t)(dbm.Zero(8)), whole(0, 0, 0, 0, 0, 0, 0, 1), api.Limit{I: 8, Bound: 1}, true},
	} {
		if l, ok := Breaks(x.z, x.v); l != x.want || ok != x.wrong {
			t.Error(x.z.Print(), x.v, l, ok)
		}
		if In(x.z, x.v) == x.wrong {
			t.Error(x.z.Print(), x.v)
		}
	}
}

// TestP6_1Wrong: nil zones, valuations that are not right, or of another number of clocks: none of these calls has an answer.
func TestP6_1Wrong(t *testing.T) {
	check := func(z *dbm.Zone, v []api.Rat) {
		t.Helper()
		if In(z, v) {
			t.Error("In", z.Print(), v)
		}
		if l, ok := Breaks(z, v); ok || l != (api.Limit{}) {
			t.Error("Breaks", z.Print(), v, l, ok)
		}
		if s, ok := Delays(z, v); ok || s != (Span{}) {
			t.Error("Delays", z.Print(), v, s, ok)
		}
	}
	for n := 0; n <= api.MaxClocks; n++ {
		zones := []*dbm.Zone{nil, must(t)(dbm.Universe(n)), must(t)(dbm.Zero(n)), empty(t, n)}
		for _, z := range zones {
			for m := range api.MaxClocks + 2 {
				if z == nil || m != n {
					check(z, slices.Repeat(whole(0), m))
				}
			}
			for _, v := range wrongOnes() {
				check(z, v)
			}
		}
	}
	check(nil, nil)
}

func TestP6_2Wait(t *testing.T) {
	over := 0
	check := func(v []api.Rat, d api.Rat) {
		var want []api.Rat
		wantErr := api.OK
		for _, r := range v {
			x, ok := held(sum(exact(r), exact(d)))
			if !ok {
				wantErr = api.ErrOver
			}
			want = append(want, x)
		}
		if wantErr != api.OK {
			want = nil
			over++
		}
		if got, err := Wait(v, d); !slices.Equal(got, want) || err != wantErr {
			t.Error(v, d, got, err, want, wantErr)
		}
	}
	for _, d := range append(great(), f(1, 3), f(22, 7)) {
		check(nil, d)
		check([]api.Rat{f(1, 2), f(0, 1), f(2, 3)}, d)
		for _, a := range great() {
			check([]api.Rat{a}, d)
			check([]api.Rat{f(1, 2), a, f(0, 1), f(5, 6), f(0, 1), f(0, 1), f(0, 1), f(7, 1)}, d)
			check(append(slices.Repeat(whole(0), 7), a), d)
		}
	}
	if over < 100 {
		t.Error("few", over)
	}
	if v, err := Wait([]api.Rat{f(1, 2), f(0, 1)}, f(1, 3)); err != api.OK || !slices.Equal(v, []api.Rat{f(5, 6), f(1, 3)}) {
		t.Error(v, err)
	}
}

func TestP6_2WaitWrong(t *testing.T) {
	for _, v := range wrongOnes() {
		for _, d := range []api.Rat{f(0, 1), f(1, 2), f(top, 1), f(-1, 1), {}} {
			if got, err := Wait(v, d); got != nil || err != api.ErrForm {
				t.Error(v, d, got, err)
			}
		}
	}
	for n := 0; n <= api.MaxClocks; n++ {
		for _, d := range wrong() {
			for _, r := range whole(0, 1, top) {
				if got, err := Wait(slices.Repeat([]api.Rat{r}, n), d); got != nil || err != api.ErrForm {
					t.Error(n, r, d, got, err)
				}
			}
		}
	}
}

func TestP6_2Set(t *testing.T) {
	for n := 0; n <= api.MaxClocks; n++ {
		v := slices.Repeat([]api.Rat{f(7, 2)}, n)
		for c := 1; c <= n; c++ {
			for _, k := range []int{0, 1, 5, api.MaxConst - 1, api.MaxConst} {
				want := slices.Clone(v)
				want[c-1] = f(int64(k), 1)
				if got, err := Set(v, c, k); err != api.OK || !slices.Equal(got, want) {
					t.Error(v, c, k, got, err)
				}
			}
			for _, k := range []int{math.MinInt, -1 << 32, -1, api.MaxConst + 1, 1 << 32, math.MaxInt} {
				if got, err := Set(v, c, k); got != nil || err != api.ErrConst {
					t.Error(v, c, k, got, err)
				}
			}
		}
		for _, c := range noClocks(n) {
			for _, k := range []int{-1, 0, api.MaxConst + 1} {
				if got, err := Set(v, c, k); got != nil || err != api.ErrClock {
					t.Error(v, c, k, got, err)
				}
			}
		}
	}
	for _, v := range wrongOnes() {
		for _, c := range []int{0, 1, len(v) + 1} {
			for _, k := range []int{-1, 0} {
				if got, err := Set(v, c, k); got != nil || err != api.ErrForm {
					t.Error(v, c, k, got, err)
				}
			}
		}
	}
}

// holds is what a guard says, by the words of DOC.md.
func holds(at []*big.Rat, g api.Guard) bool {
	c := less(at[g.Clock], at[g.Other]).Cmp(big.NewRat(int64(g.N), 1))
	switch g.Cmp {
	case api.Lt:
		return c < 0
	case api.Le:
		return c <= 0
	case api.Eq:
		return c == 0
	case api.Ge:
		return c >= 0
	}
	return c > 0
}

func TestP6_2Holds(t *testing.T) {
	yes, no := 0, 0
	for _, a := range append(great(), f(5, 2), f(3, 1), f(api.MaxConst, 1), f(1<<31+1, 1<<11)) {
		for _, b := range append(great(), f(5, 2), f(1, 2), f(2, 1), f(api.MaxConst, 1), f(1<<31-1, 1<<11)) {
			v := []api.Rat{a, b}
			for _, n := range []int{-api.MaxConst, -2, -1, 0, 1, 2, 3, api.MaxConst - 1, api.MaxConst} {
				for k := range 9 {
					g := api.Guard{Clock: k / 3, Other: k % 3, N: n}
					for g.Cmp = api.Lt; g.Cmp <= api.Gt; g.Cmp++ {
						want := holds(exactly(v), g)
						if got, err := Holds(v, g); got != want || err != api.OK {
							t.Error(v, g, got, err)
						}
						if want {
							yes++
						} else {
							no++
						}
					}
				}
			}
		}
	}
	if yes < 1000 || no < 1000 {
		t.Error("few", yes, no)
	}
}

// TestP6_2HoldsAll: of several guards all must hold.
func TestP6_2HoldsAll(t *testing.T) {
	v := whole(3, 1)
	good := api.Guard{Clock: 1, Cmp: api.Ge, N: 3}
	bad := api.Guard{Clock: 1, Other: 2, Cmp: api.Lt, N: 2}
	for _, x := range []struct {
		l    []api.Guard
		want bool
	}{
		{nil, true}, {[]api.Guard{good}, true}, {[]api.Guard{bad}, false}, {[]api.Guard{good, good}, true}, {[]api.Guard{good, bad}, false}, {[]api.Guard{bad, good}, false}, {[]api.Guard{good, bad, good}, false},
		{slices.Repeat([]api.Guard{good}, 100), true}, {append(slices.Repeat([]api.Guard{good}, 100), bad), false},
		{[]api.Guard{{Cmp: api.Eq}}, true}, {[]api.Guard{{Cmp: api.Gt}}, false}, {[]api.Guard{{Other: 1, Cmp: api.Eq, N: -3}}, true}, {[]api.Guard{{Clock: 2, Other: 2, Cmp: api.Lt, N: 1}}, true},
	} {
		if got, err := Holds(v, x.l...); got != x.want || err != api.OK {
			t.Error(x.l, got, err)
		}
	}
	if got, err := Holds(nil); !got || err != api.OK {
		t.Error(got, err)
	}
	if got, err := Holds(nil, api.Guard{Cmp: api.Le}); !got || err != api.OK {
		t.Error(got, err)
	}
}

// TestP6_2HoldsWrong: guard by guard the first error, whether those ahead hold or not; of one guard what ops.Limits says first.
func TestP6_2HoldsWrong(t *testing.T) {
	v := whole(3, 1)
	good := api.Guard{Clock: 1, Cmp: api.Ge, N: 3}
	bad := api.Guard{Clock: 1, Cmp: api.Lt}
	none := api.Guard{Clock: 3, Cmp: api.Le}
	form := api.Guard{Clock: 1, Cmp: 0}
	far := api.Guard{Clock: 1, Cmp: api.Le, N: api.MaxConst + 1}
	for _, x := range []struct {
		l    []api.Guard
		want api.Errno
	}{
		{[]api.Guard{none}, api.ErrClock}, {[]api.Guard{{Other: 3, Cmp: api.Le}}, api.ErrClock}, {[]api.Guard{{Clock: 8, Cmp: api.Le}}, api.ErrClock},
		{[]api.Guard{{Clock: 9, Cmp: api.Le}}, api.ErrClock}, {[]api.Guard{{Clock: -1, Cmp: api.Le}}, api.ErrClock}, {[]api.Guard{{Clock: 1, Other: -1, Cmp: api.Le}}, api.ErrClock}, {[]api.Guard{{Clock: math.MaxInt, Other: math.MinInt}}, api.ErrClock},
		{[]api.Guard{form}, api.ErrForm}, {[]api.Guard{{Clock: 1, Cmp: api.Gt + 1}}, api.ErrForm}, {[]api.Guard{{Clock: 1, Cmp: 255}}, api.ErrForm},
		{[]api.Guard{far}, api.ErrConst}, {[]api.Guard{{Clock: 1, Cmp: api.Le, N: -api.MaxConst - 1}}, api.ErrConst}, {[]api.Guard{{Clock: 1, Cmp: api.Le, N: math.MinInt}}, api.ErrConst},
		{[]api.Guard{{Clock: 3, Cmp: 0}}, api.ErrForm}, {[]api.Guard{{Clock: 3, Cmp: api.Le, N: math.MaxInt}}, api.ErrConst}, {[]api.Guard{{Clock: 9, Cmp: 0, N: math.MaxInt}}, api.ErrClock}, {[]api.Guard{{Clock: 1, Cmp: 0, N: math.MaxInt}}, api.ErrForm},
		{[]api.Guard{good, none}, api.ErrClock}, {[]api.Guard{bad, none}, api.ErrClock}, {[]api.Guard{bad, form}, api.ErrForm}, {[]api.Guard{bad, bad, far, good}, api.ErrConst},
		{[]api.Guard{none, form, far}, api.ErrClock}, {[]api.Guard{form, none, far}, api.ErrForm}, {[]api.Guard{far, form, none}, api.ErrConst}, {[]api.Guard{good, far, none}, api.ErrConst}, {[]api.Guard{good, none, far}, api.ErrClock},
	} {
		if got, err := Holds(v, x.l...); got || err != x.want {
			t.Error(x, got, err)
		}
	}
	for _, w := range wrongOnes() {
		for _, l := range [][]api.Guard{nil, {good}, {form}, {none}} {
			if got, err := Holds(w, l...); got || err != api.ErrForm {
				t.Error(w, l, got, err)
			}
		}
	}
	if got, err := Holds(nil, good); got || err != api.ErrClock {
		t.Error(got, err)
	}
}

// TestP6_3Least: by texts, the example among them.
func TestP6_3Least(t *testing.T) {
	for _, x := range []struct {
		z    *dbm.Zone
		want string
	}{
		{must(t)(dbm.Universe(0)), ""}, {must(t)(dbm.Universe(1)), "0"}, {must(t)(dbm.Zero(8)), "0 0 0 0 0 0 0 0"}, {must(t)(dbm.Universe(8)), "0 0 0 0 0 0 0 0"},
		{limited(t, 1, api.Limit{I: 1, Bound: lessThan(8)}, api.Limit{J: 1, Bound: lessThan(-7)}), "15/2"},
		{limited(t, 1, api.Limit{J: 1, Bound: atMost(-7)}), "7"}, {limited(t, 1, api.Limit{J: 1, Bound: lessThan(0)}), "1/2"},
		{limited(t, 1, api.Limit{J: 1, Bound: least}), "536870913/2"}, {limited(t, 1, api.Limit{J: 1, Bound: least + 1}), "268435456"},
		{limited(t, 2, api.Limit{J: 1, Bound: 0}, api.Limit{I: 1, J: 2, Bound: 0}, api.Limit{I: 2, Bound: 2}), "1/3 2/3"},
		{limited(t, 2, api.Limit{J: 1, Bound: 0}, api.Limit{I: 1, J: 2, Bound: lessThan(-1)}), "1/3 5/3"},
		{limited(t, 2, api.Limit{I: 2, Bound: atMost(5)}, api.Limit{I: 1, J: 2, Bound: lessThan(-2)}), "0 7/3"},
		{limited(t, 2, api.Limit{J: 2, Bound: atMost(-9)}, api.Limit{I: 2, J: 1, Bound: atMost(4)}), "5 9"},
	} {
		v, err := Least(x.z)
		if s := Print(v); err != api.OK || s != x.want || len(v) != x.z.Dim() {
			t.Error(x.z.Print(), v, err)
		}
	}
	if v, err := Least(nil); v != nil || err != api.ErrNil {
		t.Error(v, err)
	}
	for n := 0; n <= api.MaxClocks; n++ {
		if v, err := Least(empty(t, n)); v != nil || err != api.ErrEmpty {
			t.Error(v, err)
		}
	}
}

// chain is the zone of n clocks in which each is above the one ahead of it, and all are below 1: on the grid it has but one valuation.
func chain(t *testing.T, n int, order []int) *dbm.Zone {
	t.Helper()
	var l []api.Limit
	last := 0
	for _, c := range order {
		l = append(l, api.Limit{I: last, J: c, Bound: 0})
		last = c
	}
	return limited(t, n, append(l, api.Limit{I: last, Bound: lessThan(1)})...)
}

// TestP6_3Grid: the grid of Dim + 1 is just fine enough, whichever way the chain goes.
func TestP6_3Grid(t *testing.T) {
	for n := 1; n <= api.MaxClocks; n++ {
		var up []int
		for i := 1; i <= n; i++ {
			up = append(up, i)
		}
		down := slices.Clone(up)
		slices.Reverse(down)
		for _, order := range [][]int{up, down, append(slices.Clone(up[n/2:]), up[:n/2]...)} {
			v, err := Least(chain(t, n, order))
			if err != api.OK || len(v) != n {
				t.Fatal(n, order, v, err)
			}
			for at, c := range order {
				if want, _ := held(big.NewRat(int64(at+1), int64(n+1))); v[c-1] != want {
					t.Error(n, order, v)
				}
			}
		}
	}
}

// TestP6_3Smallest: no valuation of the zone on the grid has a smaller clock: all of them are tried.
func TestP6_3Smallest(t *testing.T) {
	for n := 1; n <= 3; n++ {
		s := newSource(uint64(900 + n))
		for range []int{0, 400, 400, 60}[n] {
			z, _ := s.zone(t, n, 2)
			if z.Empty() {
				continue
			}
			v, err := Least(z)
			if err != api.OK || !In(z, v) {
				t.Fatal(z.Print(), v, err)
			}
			grid := int64(n + 1)
			all := [][]*big.Rat{{new(big.Rat)}}
			for range n {
				var longer [][]*big.Rat
				for _, q := range all {
					for u := range 4*grid + 1 {
						longer = append(longer, append(slices.Clone(q), big.NewRat(u, grid)))
					}
				}
				all = longer
			}
			for _, q := range all {
				if _, broken := firstBroken(z, q); broken {
					continue
				}
				for i, r := range v {
					if q[i+1].Cmp(exact(r)) < 0 {
						t.Fatal(z.Print(), v, q)
					}
				}
			}
		}
	}
}

// TestP6_4Delays: by cases, the examples among them.
func TestP6_4Delays(t *testing.T) {
	strict := limited(t, 1, api.Limit{I: 1, Bound: lessThan(8)}, api.Limit{J: 1, Bound: lessThan(-7)})
	up := must(t)(ops.Up(strict))
	closed := limited(t, 1, api.Limit{I: 1, Bound: atMost(8)}, api.Limit{J: 1, Bound: atMost(-7)})
	two := limited(t, 2, api.Limit{I: 1, Bound: atMost(5)}, api.Limit{I: 2, Bound: lessThan(7)}, api.Limit{J: 1, Bound: atMost(-2)}, api.Limit{J: 2, Bound: lessThan(-3)})
	tied := limited(t, 2, api.Limit{I: 1, Bound: atMost(5)}, api.Limit{I: 2, Bound: lessThan(6)}, api.Limit{J: 1, Bound: lessThan(-2)}, api.Limit{J: 2, Bound: atMost(-3)})
	apart := limited(t, 2, api.Limit{I: 2, J: 1, Bound: lessThan(3)})
	for _, x := range []struct {
		z    *dbm.Zone
		v    []api.Rat
		want Span
		some bool
	}{
		{strict, whole(7), Span{Lo: f(0, 1), Hi: f(1, 1)}, true}, {strict, whole(0), Span{Lo: f(7, 1), Hi: f(8, 1)}, true}, {strict, whole(9), Span{}, false}, {strict, whole(8), Span{}, false},
		{strict, []api.Rat{f(15, 2)}, Span{Lo: f(0, 1), LoIn: true, Hi: f(1, 2)}, true}, {strict, []api.Rat{f(13, 2)}, Span{Lo: f(1, 2), Hi: f(3, 2)}, true},
		{up, whole(7), Span{Lo: f(0, 1), Forever: true}, true}, {up, whole(9), Span{Lo: f(0, 1), LoIn: true, Forever: true}, true}, {up, whole(0), Span{Lo: f(7, 1), Forever: true}, true},
		{closed, whole(7), Span{Lo: f(0, 1), LoIn: true, Hi: f(1, 1), HiIn: true}, true}, {closed, whole(8), Span{Lo: f(0, 1), LoIn: true, Hi: f(0, 1), HiIn: true}, true}, {closed, []api.Rat{f(17, 2)}, Span{}, false},
		{two, whole(0, 0), Span{Lo: f(3, 1), Hi: f(5, 1), HiIn: true}, true}, {two, whole(0, 2), Span{Lo: f(2, 1), LoIn: true, Hi: f(5, 1)}, true}, {two, whole(0, 1), Span{Lo: f(2, 1), Hi: f(5, 1), HiIn: true}, true}, {two, whole(0, 5), Span{}, false}, {two, whole(0, 4), Span{Lo: f(2, 1), LoIn: true, Hi: f(3, 1)}, true},
		{tied, whole(0, 1), Span{Lo: f(2, 1), Hi: f(5, 1)}, true}, {tied, whole(1, 2), Span{Lo: f(1, 1), Hi: f(4, 1)}, true}, {tied, whole(5, 5), Span{Lo: f(0, 1), LoIn: true, Hi: f(0, 1), HiIn: true}, true}, {tied, whole(5, 6), Span{}, false},
		{apart, whole(0, 2), Span{Lo: f(0, 1), LoIn: true, Forever: true}, true}, {apart, whole(0, 3), Span{}, false},
		{must(t)(dbm.Zero(1)), whole(0), Span{Lo: f(0, 1), LoIn: true, Hi: f(0, 1), HiIn: true}, true}, {must(t)(dbm.Zero(1)), whole(1), Span{}, false},
		{must(t)(dbm.Universe(0)), nil, Span{Lo: f(0, 1), LoIn: true, Forever: true}, true}, {empty(t, 0), nil, Span{}, false}, {empty(t, 1), whole(0), Span{}, false}, {empty(t, 8), whole(0, 0, 0, 0, 0, 0, 0, 0), Span{}, false},
		{must(t)(dbm.Universe(8)), whole(top, 0, 0, 0, 0, 0, 0, top), Span{Lo: f(0, 1), LoIn: true, Forever: true}, true},
	} {
		if s, ok := Delays(x.z, x.v); s != x.want || ok != x.some {
			t.Error(x.z.Print(), x.v, s, ok)
		}
	}
}

// TestP6_4Over: ends that cannot be held make no span, but ends that others leave behind do not matter.
func TestP6_4Over(t *testing.T) {
	tiny := f(1, 1<<62)
	far := atMost(api.MaxBound)
	for _, x := range []struct {
		z    *dbm.Zone
		v    []api.Rat
		want Span
		some bool
	}{
		{limited(t, 1, api.Limit{I: 1, Bound: far}), []api.Rat{tiny}, Span{}, false},
		{limited(t, 1, api.Limit{J: 1, Bound: atMost(-api.MaxBound)}), []api.Rat{tiny}, Span{}, false},
		{limited(t, 1, api.Limit{I: 1, Bound: atMost(2)}), []api.Rat{tiny}, Span{Lo: f(0, 1), LoIn: true, Hi: f(1<<63-1, 1<<62), HiIn: true}, true},
		{limited(t, 1, api.Limit{I: 1, Bound: atMost(3)}), []api.Rat{tiny}, Span{}, false},
		{limited(t, 1, api.Limit{J: 1, Bound: lessThan(-2)}), []api.Rat{tiny}, Span{Lo: f(1<<63-1, 1<<62), Forever: true}, true},
		{limited(t, 1, api.Limit{J: 1, Bound: lessThan(-2)}, api.Limit{I: 1, Bound: far}), []api.Rat{tiny}, Span{}, false},
		{limited(t, 2, api.Limit{I: 1, Bound: far}, api.Limit{I: 2, Bound: atMost(5)}), []api.Rat{tiny, f(1, 1)}, Span{Lo: f(0, 1), LoIn: true, Hi: f(4, 1), HiIn: true}, true},
		{limited(t, 2, api.Limit{I: 2, Bound: far}, api.Limit{I: 1, Bound: lessThan(5)}), []api.Rat{f(1, 1), tiny}, Span{Lo: f(0, 1), LoIn: true, Hi: f(4, 1)}, true},
		{limited(t, 2, api.Limit{J: 1, Bound: atMost(-3)}, api.Limit{J: 2, Bound: atMost(-5)}), []api.Rat{tiny, f(1, 1)}, Span{Lo: f(4, 1), LoIn: true, Forever: true}, true},
		{limited(t, 2, api.Limit{J: 2, Bound: atMost(-3)}, api.Limit{J: 1, Bound: atMost(-5)}), []api.Rat{f(1, 1), tiny}, Span{Lo: f(4, 1), LoIn: true, Forever: true}, true},
		{limited(t, 2, api.Limit{J: 1, Bound: atMost(-3)}, api.Limit{J: 2, Bound: atMost(-4)}), []api.Rat{tiny, f(1, 1)}, Span{Lo: f(3, 1), LoIn: true, Forever: true}, true},
		{limited(t, 2, api.Limit{J: 1, Bound: atMost(-4)}, api.Limit{J: 2, Bound: atMost(-4)}), []api.Rat{tiny, f(1, 1)}, Span{}, false},
		{limited(t, 2, api.Limit{J: 1, Bound: atMost(-1)}, api.Limit{I: 2, Bound: atMost(top >> 36)}), []api.Rat{f(top, 1), f(top, 1<<36)}, Span{}, false},
		{limited(t, 2, api.Limit{J: 1, Bound: atMost(-1)}, api.Limit{I: 2, Bound: atMost(1<<27 + 1)}), []api.Rat{f(top, 1), f(top, 1<<36)}, Span{Lo: f(0, 1), LoIn: true, Hi: f(1<<36+1, 1<<36), HiIn: true}, true},
	} {
		if s, ok := Delays(x.z, x.v); s != x.want || ok != x.some {
			t.Error(x.z.Print(), x.v, s, ok)
		}
	}
}

// spanOf is the span by exact numbers: all cells of a clock and 0, one by one.
func spanOf(z *dbm.Zone, v []api.Rat) (Span, bool) {
	lo, hi := new(big.Rat), (*big.Rat)(nil)
	loIn, hiIn := true, false
	at := exactly(v)
	for i := 1; i < len(at); i++ {
		if b, _ := z.Cell(i, 0); b != api.Inf {
			n, in := value(b)
			e := less(n, at[i])
			if hi == nil || e.Cmp(hi) < 0 {
				hi, hiIn = e, in
			}
			hiIn = hiIn && (in || e.Cmp(hi) != 0)
		}
		b, _ := z.Cell(0, i)
		n, in := value(b)
		e := less(n.Neg(n), at[i])
		if e.Cmp(lo) > 0 {
			lo, loIn = e, in
		}
		loIn = loIn && (in || e.Cmp(lo) != 0)
	}
	// Some delay of the span is tried: if it is none, a difference of two clocks is broken, or the span is.
	try := lo
	if hi == nil {
		try = sum(lo, big.NewRat(1, 1))
	} else if lo.Cmp(hi) != 0 {
		try = sum(lo, hi)
		try.Mul(try, big.NewRat(1, 2))
	}
	if z.Empty() || hi != nil && lo.Cmp(hi) > 0 || !behind(z, v, try) {
		return Span{}, false
	}
	s := Span{LoIn: loIn, HiIn: hiIn, Forever: hi == nil}
	ok, hiOK := false, true
	s.Lo, ok = held(lo)
	if hi != nil {
		s.Hi, hiOK = held(hi)
	}
	if !ok || !hiOK {
		return Span{}, false
	}
	return s, true
}

// TestP6_4Model: the span against exact numbers.
func TestP6_4Model(t *testing.T) {
	some, forever := 0, 0
	check := func(z *dbm.Zone, v []api.Rat) {
		want, wantOK := spanOf(z, v)
		if s, ok := Delays(z, v); s != want || ok != wantOK {
			t.Error(z.Print(), v, s, ok, want, wantOK)
		}
		if wantOK {
			some++
		}
		if want.Forever {
			forever++
		}
	}
	each(t, 60, func(_ source, z *dbm.Zone, l [][]api.Rat) {
		for _, v := range l {
			check(z, v)
		}
	})
	for _, z := range greatZones(t) {
		for _, a := range great() {
			for _, b := range great() {
				check(z, []api.Rat{a, b})
			}
		}
	}
	if some-forever < 1000 || forever < 1000 {
		t.Error("few", some, forever)
	}
}

func TestP6_5Compare(t *testing.T) {
	for _, x := range []struct {
		a, b []api.Rat
		want int
	}{
		{nil, nil, 0}, {nil, []api.Rat{}, 0}, {nil, whole(0), -1}, {whole(0), nil, 1}, {whole(0), whole(0), 0}, {whole(0), whole(1), -1}, {whole(9), whole(1), 1},
		{whole(1, 2), whole(1, 3), -1}, {whole(2, 1), whole(1, 3), 1}, {whole(1, 2), whole(1, 2, 0), -1}, {whole(1, 3), whole(1, 2, 9), 1}, {whole(1, 2, 3), whole(1, 2), 1},
		{[]api.Rat{f(1, 3)}, []api.Rat{f(1, 2)}, -1}, {[]api.Rat{f(top, top-1)}, []api.Rat{f(top-1, top-2)}, -1}, {[]api.Rat{f(1, top)}, []api.Rat{f(1, top-1)}, -1}, {[]api.Rat{f(-1, 2)}, whole(0), -1},
		{[]api.Rat{{}}, whole(5), 0}, {[]api.Rat{f(2, 4), f(1, 1)}, whole(5, 0), 1}, {[]api.Rat{f(1, 0)}, nil, 1}, {whole(5, 5), []api.Rat{f(0, -1), f(5, 1), f(0, 0)}, -1},
		{slices.Repeat(whole(1), 100), slices.Repeat(whole(1), 100), 0}, {slices.Repeat(whole(1), 100), slices.Repeat(whole(1), 99), 1},
	} {
		if c := Compare(x.a, x.b); c != x.want {
			t.Error(x, c)
		}
		if c := Compare(x.b, x.a); c != -x.want {
			t.Error(x, c)
		}
	}
	s := newSource(5)
	var l [][]api.Rat
	for range 40 {
		l = append(l, s.near(s.IntN(3), 1, []int{0, 1, 1})...)
	}
	for _, a := range l {
		for _, b := range l {
			want := slices.CompareFunc(exactly(a), exactly(b), func(x, y *big.Rat) int { return x.Cmp(y) })
			if c := Compare(a, b); c != want {
				t.Error(a, b, c, want)
			}
		}
	}
}

func TestP6_5Print(t *testing.T) {
	for _, x := range []struct {
		v    []api.Rat
		want string
	}{
		{nil, ""}, {[]api.Rat{}, ""}, {whole(0), "0"}, {[]api.Rat{f(15, 2)}, "15/2"}, {[]api.Rat{f(1, 3), f(0, 1), f(22, 7)}, "1/3 0 22/7"},
		{whole(1, 2, 3, 4, 5, 6, 7, 8), "1 2 3 4 5 6 7 8"}, {[]api.Rat{f(top, 1), f(1, top)}, "9223372036854775807 1/9223372036854775807"},
	} {
		if s := Print(x.v); s != x.want {
			t.Error(x, s)
		}
		if v, err := Parse(x.want); err != api.OK || !slices.Equal(v, x.v) {
			t.Error(x, v, err)
		}
	}
	for _, v := range wrongOnes() {
		if s := Print(v); s != "" {
			t.Error(v, s)
		}
	}
}

func TestP6_5ParseWrong(t *testing.T) {
	for _, s := range []string{
		" ", "  ", " 1", "1 ", "1  2", "1\t2", "1\n", "1,2", "1 2 ", " 1 2", "a", "1 a", "a 1", "x", "1/", "/2", "1/ 2", "1 /2", "1//2",
		"-1", "-1/2", "0 -1", "-0", "+1", "01", "1 01", "00", "2/4", "0/1", "0/2", "4/1", "1/0", "1/-2", "1.5", "1e3", "1_0", "0x1", "\u0661", "1\x00", "\xff",
		"1 2 3 4 5 6 7 8 9", "1 2 3 4 5 6 7 8 ", "0 0 0 0 0 0 0 0 0", "0 0 0 0 0 0 0 0 0 0", "1 2 3 4 5 6 7 8 9 10", "9223372036854775808", "1/9223372036854775808", "1 99999999999999999999999", "18446744073709551617",
		strings.Repeat("0 ", 1<<16), strings.Repeat(" ", 1<<16), strings.Repeat("1", 1<<16),
	} {
		if v, err := Parse(s); v != nil || err != api.ErrForm {
			t.Errorf("%.40q: %v %d", s, v, err)
		}
	}
}

// TestP6_6Ops (E1): what ops makes of a zone has the valuations that its words say.
func TestP6_6Ops(t *testing.T) {
	in := [5]int{}
	count := func(k int, yes bool) {
		if yes {
			in[k]++
		}
	}
	each(t, 40, func(s source, z *dbm.Zone, l [][]api.Rat) {
		other, _ := s.zone(t, z.Dim(), 3)
		up, and := must(t)(ops.Up(z)), must(t)(ops.And(z, other))
		g := api.Guard{Clock: s.IntN(z.Dim() + 1), Other: s.IntN(z.Dim() + 1), Cmp: api.Cmp(1 + s.IntN(5)), N: s.IntN(7) - 2}
		held := must(t)(ops.Guards(z, g))
		for _, v := range l {
			yes, err := Holds(v, g)
			if err != api.OK || In(held, v) != (In(z, v) && yes) {
				t.Fatal("Guards", z.Print(), g, v, err)
			}
			count(0, In(held, v))
			if In(and, v) != (In(z, v) && In(other, v)) {
				t.Fatal("And", z.Print(), other.Print(), v)
			}
			count(1, In(and, v))
			if In(up, v) != cameFrom(t, z, v) {
				t.Fatal("Up", z.Print(), v)
			}
			count(2, In(up, v))
			if z.Dim() == 0 {
				continue
			}
			c, n := 1+s.IntN(z.Dim()), s.IntN(4)
			set, err := Set(v, c, n)
			if unset := must(t)(ops.Unset(z, c, n)); err != api.OK || In(unset, v) != In(z, set) {
				t.Fatal("Unset", z.Print(), c, n, v, set, err)
			}
			count(3, In(z, set))
			reset := must(t)(ops.Reset(z, c, n))
			if In(reset, v) && v[c-1] != f(int64(n), 1) || In(z, v) && !In(reset, set) {
				t.Fatal("Reset", z.Print(), c, n, v)
			}
			count(4, In(reset, v))
		}
	})
	if slices.Min(in[:]) < 50 {
		t.Error("few", in)
	}
}

// cameFrom tells whether some v less d is in z: from where no clock can be lower, one of the delays is at most what has been taken off.
func cameFrom(t *testing.T, z *dbm.Zone, v []api.Rat) bool {
	t.Helper()
	if len(v) == 0 {
		return !z.Empty()
	}
	off, _ := rat.Least(v...)
	var first []api.Rat
	for _, r := range v {
		low, err := rat.Sub(r, off)
		if err != api.OK {
			t.Fatal(v, err)
		}
		first = append(first, low)
	}
	s, ok := Delays(z, first)
	c := rat.Compare(s.Lo, off)
	return ok && (c < 0 || c == 0 && s.LoIn)
}

// TestP6_7LeastIn: Least is in the zone, on the grid, whichever zone it is that is not empty.
func TestP6_7LeastIn(t *testing.T) {
	check := func(z *dbm.Zone) {
		v, err := Least(z)
		if z.Empty() {
			if v != nil || err != api.ErrEmpty {
				t.Error(z.Print(), v, err)
			}
			return
		}
		if err != api.OK || !In(z, v) {
			t.Error(z.Print(), v, err)
		}
		for _, r := range v {
			if int64(z.Dim()+1)%r.Den != 0 {
				t.Error("not on the grid", z.Print(), v)
			}
		}
	}
	each(t, 300, func(_ source, z *dbm.Zone, _ [][]api.Rat) { check(z) })
	for _, z := range greatZones(t) {
		check(z)
	}
	// A chain of strict bounds takes the most units off.
	far := api.MaxBound / 16
	for n := 1; n <= api.MaxClocks; n++ {
		var l []api.Limit
		for i := 1; i <= n; i++ {
			l = append(l, api.Limit{I: i - 1, J: i, Bound: lessThan(-far)}, api.Limit{I: i, J: i - 1, Bound: lessThan(far + 1)})
		}
		check(limited(t, n, l...))
	}
}

// TestP6_8Behind: behind each delay of a span the valuation is in the zone, behind others not.
func TestP6_8Behind(t *testing.T) {
	spans := 0
	each(t, 60, func(_ source, z *dbm.Zone, l [][]api.Rat) {
		for _, v := range l {
			s, ok := Delays(z, v)
			if ok {
				spans++
			}
			for _, d := range trials(s) {
				w, err := Wait(v, d)
				if err != api.OK {
					t.Fatal(v, d, err)
				}
				if In(z, w) != (ok && within(s, d)) {
					t.Fatal(z.Print(), v, s, ok, d)
				}
			}
		}
	})
	if spans < 1000 {
		t.Error("few", spans)
	}
}

// trials are delays at the ends of a span, near to them, and farther off.
func trials(s Span) []api.Rat {
	var l []api.Rat
	for _, e := range []api.Rat{s.Lo, s.Hi} {
		if e.Den == 0 {
			e = f(0, 1)
		}
		for _, off := range []*big.Rat{new(big.Rat), big.NewRat(1, 97), big.NewRat(-1, 97), big.NewRat(1, 2), big.NewRat(-1, 2), big.NewRat(3, 1), big.NewRat(1000, 1)} {
			if d, ok := held(sum(exact(e), off)); ok && d.Num >= 0 {
				l = append(l, d)
			}
		}
	}
	return l
}

func within(s Span, d api.Rat) bool {
	lo := rat.Compare(d, s.Lo)
	if lo < 0 || lo == 0 && !s.LoIn {
		return false
	}
	hi := rat.Compare(d, s.Hi)
	return s.Forever || hi < 0 || hi == 0 && s.HiIn
}

func TestP6_9ThereAndBack(t *testing.T) {
	for n := 0; n <= api.MaxClocks; n++ {
		s := newSource(uint64(50 + n))
		l := s.near(n, 200, slices.Repeat([]int{3}, n+1))
		for _, a := range great() {
			l = append(l, slices.Repeat([]api.Rat{a}, n))
		}
		for _, v := range l {
			if back, err := Parse(Print(v)); err != api.OK || !slices.Equal(back, v) {
				t.Error(v, back, err)
			}
		}
	}
}

// FuzzP6_9: what Parse takes is written again as it was read.
func FuzzP6_9(fz *testing.F) {
	for _, s := range []string{"", "0", "1/2 3", "1 2 3 4 5 6 7 8", "1 2 3 4 5 6 7 8 9", " ", "1  2", "-1", "2/4", "0/1"} {
		fz.Add(s)
	}
	fz.Fuzz(func(t *testing.T, s string) {
		v, err := Parse(s)
		if err == api.OK && (!Right(v) || Print(v) != s) || err != api.OK && (err != api.ErrForm || v != nil) {
			t.Errorf("%q: %v %d", s, v, err)
		}
	})
}

// TestP3StaysAsItIs: what is handed in does not change, nor does the room behind it; what is answered is the caller's.
func TestP3StaysAsItIs(t *testing.T) {
	room := append(whole(3, 1), f(99, 1), f(98, 1))
	guards := []api.Guard{{Clock: 1, Cmp: api.Ge, N: 3}, {Clock: 2, Cmp: api.Eq, N: 1}, {Clock: 7}}
	keep, keepGuards := slices.Clone(room), slices.Clone(guards)
	v := room[:2]
	z := limited(t, 2, api.Limit{I: 1, Bound: atMost(5)}, api.Limit{J: 2, Bound: -2})
	first, err := Least(z)
	if err != api.OK {
		t.Fatal(err)
	}
	answers := [][]api.Rat{first}
	for _, call := range []func() ([]api.Rat, api.Errno){
		func() ([]api.Rat, api.Errno) { return Wait(v, f(0, 1)) },
		func() ([]api.Rat, api.Errno) { return Wait(v, f(1, 2)) },
		func() ([]api.Rat, api.Errno) { return Set(v, 1, 3) },
		func() ([]api.Rat, api.Errno) { return Set(v, 2, 0) },
		func() ([]api.Rat, api.Errno) { return Wait(v[:0], f(1, 2)) },
		func() ([]api.Rat, api.Errno) { return Parse("3 1") },
		func() ([]api.Rat, api.Errno) { return Parse("") },
	} {
		w, err := call()
		if err != api.OK {
			t.Fatal(err)
		}
		answers = append(answers, w)
	}
	In(z, v)
	Breaks(z, v)
	Delays(z, v)
	Holds(v, guards[:2]...)
	Compare(v, room[1:3])
	Print(v)
	Right(v)
	for _, w := range answers {
		for i := range w {
			w[i] = f(77, 1)
		}
		_ = append(w, f(76, 1))
	}
	if !slices.Equal(room, keep) || !slices.Equal(guards, keepGuards) {
		t.Error(room, guards)
	}
	if again, err := Least(z); err != api.OK || Print(again) != "0 4/3" {
		t.Error(again, err)
	}
}
