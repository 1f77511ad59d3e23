package ops

import (
	"math"
	"slices"
	"testing"

	"gnomon/api"
	"gnomon/dbm"
)

// noClocks are numbers that stand for no clock of n that can be set.
func noClocks(n int) []int {
	return []int{math.MinInt, -1 << 32, -1, 0, n + 1, api.MaxClocks + 1, 1 << 32, 1<<32 + 1, math.MaxInt}
}

func isNone(t *testing.T, z *dbm.Zone, err, want api.Errno, of ...any) {
	t.Helper()
	if z != nil || err != want {
		t.Error(append(of, z.Print(), err, "want", want)...)
	}
}

// TestP4_1Nil: ErrNil comes first, of all calls that are handed a zone.
func TestP4_1Nil(t *testing.T) {
	u := must(t)(dbm.Universe(1))
	calls := map[string]func() (*dbm.Zone, api.Errno){
		"Up":           func() (*dbm.Zone, api.Errno) { return Up(nil) },
		"Down":         func() (*dbm.Zone, api.Errno) { return Down(nil) },
		"Reset":        func() (*dbm.Zone, api.Errno) { return Reset(nil, 1, -1) },
		"Reset right":  func() (*dbm.Zone, api.Errno) { return Reset(nil, 1, 0) },
		"Unset":        func() (*dbm.Zone, api.Errno) { return Unset(nil, -1, -1) },
		"Unset right":  func() (*dbm.Zone, api.Errno) { return Unset(nil, 1, 0) },
		"Free":         func() (*dbm.Zone, api.Errno) { return Free(nil) },
		"Free clock":   func() (*dbm.Zone, api.Errno) { return Free(nil, 1, -1) },
		"Copy":         func() (*dbm.Zone, api.Errno) { return Copy(nil, 0, 1) },
		"Constrain":    func() (*dbm.Zone, api.Errno) { return Constrain(nil) },
		"Constrain by": func() (*dbm.Zone, api.Errno) { return Constrain(nil, api.Limit{I: -1, Bound: api.Inf - 1}) },
		"Guards":       func() (*dbm.Zone, api.Errno) { return Guards(nil) },
		"Guards by":    func() (*dbm.Zone, api.Errno) { return Guards(nil, api.Guard{Clock: -1}) },
		"And":          func() (*dbm.Zone, api.Errno) { return And(nil) },
		"And first":    func() (*dbm.Zone, api.Errno) { return And(nil, u) },
		"And last":     func() (*dbm.Zone, api.Errno) { return And(u, empty(t, 2), nil) },
		"Hull":         func() (*dbm.Zone, api.Errno) { return Hull(nil) },
		"Hull first":   func() (*dbm.Zone, api.Errno) { return Hull(nil, u) },
		"Hull last":    func() (*dbm.Zone, api.Errno) { return Hull(u, empty(t, 2), nil) },
		"Keep":         func() (*dbm.Zone, api.Errno) { return Keep(nil) },
		"Keep many":    func() (*dbm.Zone, api.Errno) { return Keep(nil, make([]int, 100)...) },
	}
	for name, call := range calls {
		z, err := call()
		isNone(t, z, err, api.ErrNil, name)
	}
}

// TestP4_1Empty: of the empty zone all of these but Hull are empty, of as many clocks, where no error is named.
func TestP4_1Empty(t *testing.T) {
	for n := 0; n <= api.MaxClocks; n++ {
		z := empty(t, n)
		u := must(t)(dbm.Universe(n))
		list := []*dbm.Zone{must(t)(Up(z)), must(t)(Down(z)), must(t)(Free(z)), must(t)(Constrain(z)), must(t)(Guards(z)), must(t)(And(z)), must(t)(And(u, z)), must(t)(And(z, u)), must(t)(Hull(z)), must(t)(Hull(z, z, z))}
		for c := 1; c <= n; c++ {
			list = append(list, must(t)(Reset(z, c, 0)), must(t)(Reset(z, c, api.MaxConst)), must(t)(Unset(z, c, 0)), must(t)(Unset(z, c, api.MaxConst)), must(t)(Free(z, c)), must(t)(Copy(z, c, 1)), must(t)(Copy(z, 1, c)), must(t)(Constrain(z, api.Limit{I: c, Bound: api.Inf})), must(t)(Guards(z, api.Guard{Clock: c, Cmp: api.Ge})))
		}
		for _, o := range list {
			if o == z || !o.Equal(z) {
				t.Error(n, o.Print())
			}
		}
		for _, clocks := range [][]int{nil, {1}, {1, n}, {n, 1, n}, slices.Repeat([]int{n}, 8)} {
			if n == 0 && clocks != nil {
				continue
			}
			if k := must(t)(Keep(z, clocks...)); !k.Equal(empty(t, len(clocks))) {
				t.Error(n, clocks, k.Print())
			}
		}
	}
	z := empty(t, 1)
	o, err := Reset(z, 2, 0)
	isNone(t, o, err, api.ErrClock)
	o, err = Unset(z, 1, -1)
	isNone(t, o, err, api.ErrConst)
	o, err = Free(z, 1, 2)
	isNone(t, o, err, api.ErrClock)
	o, err = Copy(z, 1, 2)
	isNone(t, o, err, api.ErrClock)
	o, err = Constrain(z, api.Limit{Bound: most + 1})
	isNone(t, o, err, api.ErrRange)
	o, err = And(z, empty(t, 2))
	isNone(t, o, err, api.ErrDim)
	o, err = Keep(z, 2)
	isNone(t, o, err, api.ErrClock)
}

// TestP4_1Time: Up and Down, by their texts.
func TestP4_1Time(t *testing.T) {
	for _, c := range []struct{ z, up, down string }{
		{"0:", "0:", "0:"},
		{"1: x0-x1<-2 x1-x0<=5", "1: x0-x1<-2", "1: x1-x0<=5"},
		{"2: x1-x0<=0 x1-x2<=0 x2-x0<=0 x2-x1<=0", "2: x1-x2<=0 x2-x1<=0", "2: x1-x0<=0 x1-x2<=0 x2-x0<=0 x2-x1<=0"},
		{"2: x0-x1<=-3 x0-x2<=-1 x1-x0<=3 x1-x2<=2 x2-x0<=1 x2-x1<=-2", "2: x0-x1<=-3 x0-x2<=-1 x1-x2<=2 x2-x1<=-2", "2: x0-x1<=-2 x1-x0<=3 x1-x2<=2 x2-x0<=1 x2-x1<=-2"},
	} {
		z := parse(t, c.z)
		if s := must(t)(Up(z)).Print(); s != c.up {
			t.Error("Up", c.z, s)
		}
		if s := must(t)(Down(z)).Print(); s != c.down {
			t.Error("Down", c.z, s)
		}
	}
}

// TestP4_2Errors: of Reset, Unset, Free and Copy the error that is named first.
func TestP4_2Errors(t *testing.T) {
	for n := 0; n <= api.MaxClocks; n++ {
		z := must(t)(dbm.Zero(n))
		for _, c := range noClocks(n) {
			for _, v := range []int{math.MinInt, -1, 0, api.MaxConst, api.MaxConst + 1, math.MaxInt} {
				o, err := Reset(z, c, v)
				isNone(t, o, err, api.ErrClock, "Reset", n, c, v)
				o, err = Unset(z, c, v)
				isNone(t, o, err, api.ErrClock, "Unset", n, c, v)
			}
			for _, l := range [][]int{{c}, {c, 1}, {1, c}, {1, n, c}} {
				o, err := Free(z, l...)
				isNone(t, o, err, api.ErrClock, "Free", n, l)
			}
			for d := range n + 2 {
				o, err := Copy(z, c, d)
				isNone(t, o, err, api.ErrClock, "Copy", n, c, d)
				o, err = Copy(z, d, c)
				isNone(t, o, err, api.ErrClock, "Copy", n, d, c)
			}
		}
		for c := 1; c <= n; c++ {
			for _, v := range []int{math.MinInt, -1 << 32, -1, api.MaxConst + 1, 1 << 32, math.MaxInt} {
				o, err := Reset(z, c, v)
				isNone(t, o, err, api.ErrConst, "Reset", n, c, v)
				o, err = Unset(z, c, v)
				isNone(t, o, err, api.ErrConst, "Unset", n, c, v)
			}
		}
	}
}

// TestP4_2Ends: Reset and Unset of the least and the greatest number.
func TestP4_2Ends(t *testing.T) {
	z := parse(t, "1: x1-x0<=7")
	if s := must(t)(Reset(z, 1, 0)).Print(); s != "1: x1-x0<=0" {
		t.Error(s)
	}
	if s := must(t)(Reset(z, 1, api.MaxConst)).Print(); s != "1: x0-x1<=-1048576 x1-x0<=1048576" {
		t.Error(s)
	}
	if s := must(t)(Unset(z, 1, 7)).Print(); s != "1:" {
		t.Error(s)
	}
	if s := must(t)(Unset(z, 1, 8)).Print(); s != "1: empty" {
		t.Error(s)
	}
	wide := must(t)(dbm.Limits(1, api.Limit{I: 1, Bound: atMost(api.MaxConst)}))
	if s := must(t)(Unset(wide, 1, api.MaxConst)).Print(); s != "1:" {
		t.Error(s)
	}
	if s := must(t)(Unset(must(t)(Constrain(wide, api.Limit{I: 1, Bound: lessThan(api.MaxConst)})), 1, api.MaxConst)).Print(); s != "1: empty" {
		t.Error(s)
	}
}

// TestP4_3Errors: of Constrain the error that is named first.
func TestP4_3Errors(t *testing.T) {
	for n := 0; n <= api.MaxClocks; n++ {
		z := must(t)(dbm.Universe(n))
		for _, c := range noClocks(n) {
			if c == 0 {
				continue
			}
			for _, l := range [][]api.Limit{
				{{I: c, Bound: 1}}, {{J: c, Bound: 1}}, {{I: c, J: c, Bound: api.Inf}},
				{{Bound: most + 1}, {I: c}}, {{I: c, Bound: least - 1}}, {{}, {}, {J: c}},
			} {
				o, err := Constrain(z, l...)
				isNone(t, o, err, api.ErrClock, n, l)
			}
		}
		for _, b := range wrong() {
			for _, l := range [][]api.Limit{{{Bound: b}}, {{I: n, Bound: b}}, {{J: n, Bound: b}, {}}, {{}, {Bound: b}}} {
				o, err := Constrain(z, l...)
				isNone(t, o, err, api.ErrRange, n, l)
			}
		}
	}
}

// TestP4_3Same: a limit of a clock less itself is one of 0.
func TestP4_3Same(t *testing.T) {
	for n := 0; n <= api.MaxClocks; n++ {
		z := must(t)(dbm.Universe(n))
		for i := 0; i <= n; i++ {
			for _, b := range []api.Bound{least, -2, -1, 0, 1, 2, 3, most, api.Inf} {
				o := must(t)(Constrain(z, api.Limit{I: i, J: i, Bound: b}))
				if o.Empty() != (b < 1) || !o.Empty() && !o.Equal(z) {
					t.Error(n, i, b, o.Print())
				}
			}
		}
	}
}

// TestP4_3Limits: the limits of a guard, and the error that is named first.
func TestP4_3Limits(t *testing.T) {
	for _, clock := range []int{0, 1, 7, api.MaxClocks} {
		for _, other := range []int{0, 1, 7, api.MaxClocks} {
			for _, n := range []int{-api.MaxConst, -5, -1, 0, 1, 5, api.MaxConst} {
				for _, c := range []struct {
					cmp  api.Cmp
					want []api.Limit
				}{
					{api.Lt, []api.Limit{{I: clock, J: other, Bound: lessThan(n)}}},
					{api.Le, []api.Limit{{I: clock, J: other, Bound: atMost(n)}}},
					{api.Eq, []api.Limit{{I: clock, J: other, Bound: atMost(n)}, {I: other, J: clock, Bound: atMost(-n)}}},
					{api.Ge, []api.Limit{{I: other, J: clock, Bound: atMost(-n)}}},
					{api.Gt, []api.Limit{{I: other, J: clock, Bound: lessThan(-n)}}},
				} {
					g := api.Guard{Clock: clock, Other: other, Cmp: c.cmp, N: n}
					if l, err := Limits(g); err != api.OK || !slices.Equal(l, c.want) {
						t.Error(g, l, err)
					}
				}
			}
		}
	}
	for _, c := range []struct {
		g    api.Guard
		want api.Errno
	}{
		{api.Guard{Clock: -1, Cmp: api.Lt}, api.ErrClock},
		{api.Guard{Clock: 9, Cmp: 0, N: math.MaxInt}, api.ErrClock},
		{api.Guard{Other: -1, Cmp: 6}, api.ErrClock},
		{api.Guard{Other: 9, Cmp: api.Gt}, api.ErrClock},
		{api.Guard{Clock: math.MinInt, Other: math.MaxInt}, api.ErrClock},
		{api.Guard{Clock: 1 << 32}, api.ErrClock},
		{api.Guard{Clock: 8}, api.ErrForm},
		{api.Guard{Clock: 8, Cmp: 6, N: math.MinInt}, api.ErrForm},
		{api.Guard{Clock: 8, Cmp: 255, N: api.MaxConst + 1}, api.ErrForm},
		{api.Guard{Clock: 8, Cmp: api.Lt, N: api.MaxConst + 1}, api.ErrConst},
		{api.Guard{Clock: 8, Cmp: api.Eq, N: -api.MaxConst - 1}, api.ErrConst},
		{api.Guard{Clock: 8, Cmp: api.Gt, N: math.MinInt}, api.ErrConst},
		{api.Guard{Clock: 8, Cmp: api.Le, N: math.MaxInt}, api.ErrConst},
	} {
		if l, err := Limits(c.g); l != nil || err != c.want {
			t.Error(c.g, l, err, "want", c.want)
		}
	}
}

// TestP4_3Callers: what Limits answers is the caller's.
func TestP4_3Callers(t *testing.T) {
	g := api.Guard{Clock: 1, Cmp: api.Eq, N: 3}
	l, _ := Limits(g)
	l[0], l[1] = api.Limit{}, api.Limit{}
	if again, _ := Limits(g); again[0] == l[0] || again[1] == l[1] {
		t.Error(again)
	}
}

// TestP4_3GuardErrors: the first error of Limits of the guards, in order; then those of Constrain.
func TestP4_3GuardErrors(t *testing.T) {
	z := must(t)(dbm.Universe(2))
	right := api.Guard{Clock: 1, Cmp: api.Lt, N: 3}
	high := api.Guard{Clock: 3, Cmp: api.Lt, N: 3}
	form := api.Guard{Clock: 1, Cmp: 9}
	far := api.Guard{Clock: 1, Cmp: api.Le, N: api.MaxConst + 1}
	clock := api.Guard{Clock: 9}
	for _, c := range []struct {
		l    []api.Guard
		want api.Errno
	}{
		{[]api.Guard{right, high}, api.ErrClock},
		{[]api.Guard{{Clock: 1, Other: 3, Cmp: api.Gt}}, api.ErrClock},
		{[]api.Guard{high, form, clock}, api.ErrForm},
		{[]api.Guard{high, far, form}, api.ErrConst},
		{[]api.Guard{form, far, clock}, api.ErrForm},
		{[]api.Guard{right, right, clock, far}, api.ErrClock},
	} {
		o, err := Guards(z, c.l...)
		isNone(t, o, err, c.want, c.l)
		o, err = Guards(empty(t, 2), c.l...)
		isNone(t, o, err, c.want, c.l)
	}
}

// TestP4_4Errors: of And, Hull and Keep the error that is named first.
func TestP4_4Errors(t *testing.T) {
	for n := 0; n <= api.MaxClocks; n++ {
		for m := 0; m <= api.MaxClocks; m++ {
			z, o := must(t)(dbm.Zero(n)), must(t)(dbm.Zero(m))
			for _, l := range [][]*dbm.Zone{{o}, {z, o}, {o, z}} {
				want := api.OK
				if n != m {
					want = api.ErrDim
				}
				a, err := And(z, l...)
				if err != want || (a == nil) != (want != api.OK) {
					t.Error("And", n, m, a.Print(), err)
				}
				h, err := Hull(z, l...)
				if err != want || (h == nil) != (want != api.OK) {
					t.Error("Hull", n, m, h.Print(), err)
				}
			}
		}
		z := must(t)(dbm.Zero(n))
		for _, c := range noClocks(n) {
			for _, l := range [][]int{{c}, {c, 1}, {1, c}, {1, 1, 1, 1, 1, 1, 1, c}} {
				o, err := Keep(z, l...)
				isNone(t, o, err, api.ErrClock, n, l)
			}
		}
		for _, many := range []int{9, 10, 100} {
			for _, c := range []int{-1, 0, 1, n} {
				o, err := Keep(z, slices.Repeat([]int{c}, many)...)
				isNone(t, o, err, api.ErrLong, n, many, c)
			}
		}
	}
}

// TestP4_5Bound (E3): ErrBound just if the answer would not be empty, and have a finite cell that may not be.
func TestP4_5Bound(t *testing.T) {
	top := must(t)(dbm.Limits(3, api.Limit{I: 1, Bound: most}))
	step := func(b api.Bound) api.Limit { return api.Limit{I: 2, J: 1, Bound: b} }
	none := api.Limit{I: 3, Bound: 0}
	for _, b := range []api.Bound{atMost(1), lessThan(1), lessThan(2), most} {
		o, err := Constrain(top, step(b))
		isNone(t, o, err, api.ErrBound, "Constrain", b)
		o, err = And(top, must(t)(dbm.Limits(3, step(b))))
		isNone(t, o, err, api.ErrBound, "And", b)
		if o := must(t)(Constrain(top, step(b), none)); !o.Empty() {
			t.Error(o.Print())
		}
		// On the way two of them pass the bound; all three have nothing in common.
		if o := must(t)(And(top, must(t)(dbm.Limits(3, step(b))), empty(t, 3))); !o.Empty() {
			t.Error(o.Print())
		}
		// What all have in common is within it.
		near := must(t)(dbm.Limits(3, api.Limit{I: 1, Bound: 1}))
		if o := must(t)(And(top, must(t)(dbm.Limits(3, step(b))), near)); o.Empty() {
			t.Error(o.Print())
		}
	}
	if o := must(t)(Constrain(top, step(atMost(0)))); o.Print() != "3: x1-x0<=268435456 x1-x2<=268435456 x1-x3<=268435456 x2-x0<=268435456 x2-x1<=0 x2-x3<=268435456" {
		t.Error(o.Print())
	}
	low := must(t)(dbm.Limits(2, api.Limit{J: 1, Bound: least}))
	o, err := Guards(low, api.Guard{Clock: 2, Other: 1, Cmp: api.Ge, N: 1})
	isNone(t, o, err, api.ErrBound, "Guards")
	if o := must(t)(Guards(low, api.Guard{Clock: 2, Other: 1, Cmp: api.Ge, N: 1}, api.Guard{Clock: 2, Cmp: api.Lt, N: api.MaxConst})); !o.Empty() {
		t.Error(o.Print())
	}
}

// TestP4_5Unset: the numbers that Unset adds may pass the bound.
func TestP4_5Unset(t *testing.T) {
	above := api.Limit{I: 2, J: 1, Bound: most}
	below := api.Limit{I: 1, J: 2, Bound: atMost(-api.MaxBound)}
	late := api.Limit{J: 1, Bound: atMost(-api.MaxConst)}
	for _, c := range []struct {
		l    []api.Limit
		n    int
		want string
	}{
		{[]api.Limit{above}, 0, "2: x2-x0<=268435456 x2-x1<=268435456"},
		{[]api.Limit{above}, 1, ""},
		{[]api.Limit{above}, api.MaxConst, ""},
		{[]api.Limit{above, late}, 0, "2: empty"},
		{[]api.Limit{above, late}, 1, "2: empty"},
		{[]api.Limit{above, {I: 2, Bound: atMost(3)}}, 1, "2: x2-x0<=3 x2-x1<=3"},
		{[]api.Limit{below}, 0, "2: x0-x2<=-268435456"},
		{[]api.Limit{below}, 1, ""},
		{[]api.Limit{below, {I: 2, Bound: most}}, 0, "2: x0-x2<=-268435456 x2-x0<=268435456 x2-x1<=268435456"},
		{[]api.Limit{below, {I: 2, Bound: most}}, 1, "2: empty"},
	} {
		z := must(t)(dbm.Limits(2, c.l...))
		o, err := Unset(z, 1, c.n)
		if c.want == "" {
			isNone(t, o, err, api.ErrBound, z.Print(), c.n)
		} else if err != api.OK || o.Print() != c.want {
			t.Error(z.Print(), c.n, o.Print(), err, "want", c.want)
		}
	}
}

// TestP4_5Never: the other calls do not pass the bound, whatever the zone; Unset does just where the words say so.
func TestP4_5Never(t *testing.T) {
	for n := 1; n <= api.MaxClocks; n++ {
		s := newSource(uint64(n) + 100)
		for range 300 {
			z, p := s.zone(t, n, api.MaxBound)
			o, _ := s.zone(t, n, api.MaxBound)
			c, d, v := 1+s.IntN(n), 1+s.IntN(n), s.IntN(api.MaxConst+1)
			l := []*dbm.Zone{must(t)(Up(z)), must(t)(Down(z)), must(t)(Free(z, c, d)), must(t)(Copy(z, c, d)), must(t)(Hull(z, o)), must(t)(Reset(z, c, v)), must(t)(Keep(z, slices.Repeat([]int{c, d}, 4)...))}
			q := place{1, make([]int64, n+1)}
			for i := 1; i <= n; i++ {
				q.at[i] = int64(p[i])
			}
			for k, a := range l[:5] {
				if q.in(z) && k != 3 && !q.in(a) {
					t.Fatal(k, z.Print(), a.Print(), p)
				}
			}
			if q.in(z) && !q.set(c, v).in(l[5]) {
				t.Fatal(z.Print(), l[5].Print(), p)
			}
		}
	}
}

// TestP4_5UnsetModel: Unset has ErrBound just if some cell of the others, with the number in the clock's place, may not be.
func TestP4_5UnsetModel(t *testing.T) {
	beyond, within := 0, 0
	for n := 1; n <= 4; n++ {
		s := newSource(uint64(n) + 200)
		for range 2000 {
			// The clock has the number, the others are about MaxBound above it.
			c, v := 1+s.IntN(n), s.IntN(4)
			p := make([]int, n+1)
			for i := 1; i <= n; i++ {
				p[i] = api.MaxBound - s.IntN(6) + v
			}
			p[c] = v
			z, err := dbm.Of(n, s.around(p))
			if err == api.ErrBound {
				continue
			}
			closed, some := substituted(z, c, int64(v))
			o, err := Unset(z, c, v)
			passes := slices.ContainsFunc(closed, func(w int64) bool { return w != noBound && (w < int64(least) || w > int64(most)) })
			switch {
			case !some:
				if err != api.OK || !o.Empty() {
					t.Fatal(z.Print(), c, v, o.Print(), err)
				}
			case passes:
				beyond++
				isNone(t, o, err, api.ErrBound, z.Print(), c, v)
			default:
				within++
				if err != api.OK || o.Empty() {
					t.Fatal(z.Print(), c, v, o.Print(), err)
				}
			}
		}
	}
	if beyond < 20 || within < 100 {
		t.Error("the inputs are all of one kind", beyond, within)
	}
}

const noBound = math.MaxInt64

// substituted are the closed bounds of all but a clock, if that has a number; false: there are none.
func substituted(z *dbm.Zone, clock int, n int64) ([]int64, bool) {
	side := z.Dim() + 1
	w := slices.Repeat([]int64{noBound}, side*side)
	put := func(i, j int, b int64) { w[i*side+j] = min(w[i*side+j], b) }
	for at, b := range z.Cells() {
		i, j, wide := at/side, at%side, int64(b)
		if b == api.Inf {
			continue
		}
		if i == clock && j != clock {
			i, wide = 0, wide-2*n
		} else if j == clock && i != clock {
			j, wide = 0, wide+2*n
		}
		put(i, j, wide)
	}
	for range 2 * side { // often enough for sums of all to come up, and not as the program does it
		for at := range w {
			for k := range side {
				a, b := w[at/side*side+k], w[k*side+at%side]
				if a != noBound && b != noBound {
					put(at/side, at%side, a+b-(a|b)&1)
				}
			}
		}
		for i := range side {
			if w[i*side+i] < 1 && i != clock {
				return nil, false
			}
		}
	}
	return w, true
}

// TestP4_6Time (E1): each valuation is in Up and Down just if the words say so.
func TestP4_6Time(t *testing.T) {
	each(t, 60, func(s source, z *dbm.Zone, l []place) {
		up, down := must(t)(Up(z)), must(t)(Down(z))
		for _, p := range l {
			if p.in(up) != p.later(z) || p.in(down) != p.earlier(z) {
				t.Fatal(z.Print(), "|", up.Print(), "|", down.Print(), p)
			}
		}
	})
}

// TestP4_6Set (E1): each valuation is in Reset, Unset, Free and Copy just if the words say so.
func TestP4_6Set(t *testing.T) {
	each(t, 60, func(s source, z *dbm.Zone, l []place) {
		if z.Dim() == 0 {
			return
		}
		c, d, n := 1+s.IntN(z.Dim()), 1+s.IntN(z.Dim()), s.IntN(6)
		reset, unset := must(t)(Reset(z, c, n)), must(t)(Unset(z, c, n))
		free, same := must(t)(Free(z, c)), must(t)(Copy(z, c, d))
		for _, p := range l {
			if p.in(reset) != (p.at[c] == int64(n)*p.den && p.but(z, c)) {
				t.Fatal("Reset", z.Print(), c, n, reset.Print(), p)
			}
			if q := p.set(c, n); q.in(reset) != q.but(z, c) {
				t.Fatal("Reset", z.Print(), c, n, reset.Print(), q)
			}
			if p.in(unset) != p.set(c, n).in(z) {
				t.Fatal("Unset", z.Print(), c, n, unset.Print(), p)
			}
			if p.in(free) != p.but(z, c) {
				t.Fatal("Free", z.Print(), c, free.Print(), p)
			}
			q := place{p.den, slices.Clone(p.at)}
			q.at[c] = q.at[d]
			if c == d && q.in(same) != q.in(z) || c != d && q.in(same) != q.but(z, c) || p.at[c] != p.at[d] && p.in(same) {
				t.Fatal("Copy", z.Print(), c, d, same.Print(), q)
			}
		}
	})
}

// TestP4_6Free: several clocks are as one behind the other, in whatever order, and none is the zone.
func TestP4_6Free(t *testing.T) {
	each(t, 40, func(s source, z *dbm.Zone, l []place) {
		if none := must(t)(Free(z)); none == z || !none.Equal(z) {
			t.Fatal(z.Print(), none.Print())
		}
		var clocks []int
		want := z
		for range s.IntN(5) {
			if z.Dim() > 0 {
				c := 1 + s.IntN(z.Dim())
				clocks = append(clocks, c)
				want = must(t)(Free(want, c))
			}
		}
		given := slices.Clone(clocks)
		if all := must(t)(Free(z, clocks...)); !all.Equal(want) || !slices.Equal(clocks, given) {
			t.Fatal(z.Print(), clocks, all.Print(), want.Print())
		}
		slices.Reverse(clocks)
		if all := must(t)(Free(z, clocks...)); !all.Equal(want) {
			t.Fatal(z.Print(), clocks, all.Print(), want.Print())
		}
	})
}

// TestP4_6Constrain (E1): each valuation is in Constrain and Guards just if it is in the zone, and keeps all limits, and the guards hold.
func TestP4_6Constrain(t *testing.T) {
	each(t, 60, func(s source, z *dbm.Zone, l []place) {
		var limits []api.Limit
		var guards []api.Guard
		for range s.IntN(4) {
			b := api.Bound(s.IntN(16) - 6)
			if s.IntN(5) == 0 {
				b = api.Inf
			}
			limits = append(limits, api.Limit{I: s.IntN(z.Dim() + 1), J: s.IntN(z.Dim() + 1), Bound: b})
			guards = append(guards, api.Guard{Clock: s.IntN(z.Dim() + 1), Other: s.IntN(z.Dim() + 1), Cmp: api.Lt + api.Cmp(s.IntN(5)), N: s.IntN(7) - 2})
		}
		givenLimits, givenGuards := slices.Clone(limits), slices.Clone(guards)
		kept, held := must(t)(Constrain(z, limits...)), must(t)(Guards(z, guards...))
		if !slices.Equal(limits, givenLimits) || !slices.Equal(guards, givenGuards) {
			t.Fatal("changed", limits, guards)
		}
		for _, p := range l {
			keeps, holds := p.in(z), p.in(z)
			for _, b := range limits {
				keeps = keeps && p.keeps(b.I, b.J, b.Bound)
			}
			for _, g := range guards {
				holds = holds && p.holds(g)
			}
			if p.in(kept) != keeps || p.in(held) != holds {
				t.Fatal(z.Print(), limits, kept.Print(), guards, held.Print(), p)
			}
		}
	})
}

// holds tells whether a guard holds, by the words of DOC.md.
func (p place) holds(g api.Guard) bool {
	d, n := p.at[g.Clock]-p.at[g.Other], int64(g.N)*p.den
	switch g.Cmp {
	case api.Lt:
		return d < n
	case api.Le:
		return d <= n
	case api.Eq:
		return d == n
	case api.Ge:
		return d >= n
	}
	return d > n
}

// TestP4_6And (E1): each valuation is in And just if it is in all.
func TestP4_6And(t *testing.T) {
	each(t, 60, func(s source, z *dbm.Zone, l []place) {
		var list []*dbm.Zone
		for range s.IntN(4) {
			o, _ := s.zone(t, z.Dim(), 4)
			list = append(list, o)
		}
		given := slices.Clone(list)
		both := must(t)(And(z, list...))
		if both == z || !slices.Equal(list, given) {
			t.Fatal("not new, or changed")
		}
		for _, p := range l {
			in := p.in(z)
			for _, o := range list {
				in = in && p.in(o)
			}
			if p.in(both) != in {
				t.Fatal(z.Print(), both.Print(), p)
			}
		}
	})
}

// TestP4_6Keep (E1): a valuation of the clocks that are kept is in Keep just if some values of the others make one of the zone.
func TestP4_6Keep(t *testing.T) {
	each(t, 60, func(s source, z *dbm.Zone, l []place) {
		var clocks, others []int
		if z.Dim() > 0 {
			for range s.IntN(api.MaxClocks + 1) {
				clocks = append(clocks, 1+s.IntN(z.Dim()))
			}
		}
		for c := 1; c <= z.Dim(); c++ {
			if !slices.Contains(clocks, c) {
				others = append(others, c)
			}
		}
		given := slices.Clone(clocks)
		kept, free := must(t)(Keep(z, clocks...)), must(t)(Free(z, others...))
		if kept.Dim() != len(clocks) || kept.Empty() != z.Empty() || !slices.Equal(clocks, given) {
			t.Fatal(z.Print(), clocks, kept.Print())
		}
		for _, p := range l {
			q := place{p.den, []int64{0}}
			for _, c := range clocks {
				q.at = append(q.at, p.at[c])
			}
			if q.in(kept) != p.in(free) {
				t.Fatal(z.Print(), clocks, kept.Print(), p)
			}
			// A clock that is there twice has one value.
			for i, c := range clocks {
				if slices.Contains(clocks[:i], c) {
					odd := place{q.den, slices.Clone(q.at)}
					odd.at[i+1]++
					if odd.in(kept) {
						t.Fatal(z.Print(), clocks, kept.Print(), odd)
					}
				}
			}
		}
	})
}

// TestP4_7Again: Up of Up is Up, Down of Down is Down, and both include the zone.
func TestP4_7Again(t *testing.T) {
	each(t, 100, func(s source, z *dbm.Zone, l []place) {
		up, down := must(t)(Up(z)), must(t)(Down(z))
		if o := must(t)(Up(up)); !o.Equal(up) || !up.Includes(z) {
			t.Fatal(z.Print(), up.Print(), o.Print())
		}
		if o := must(t)(Down(down)); !o.Equal(down) || !down.Includes(z) {
			t.Fatal(z.Print(), down.Print(), o.Print())
		}
	})
}

// TestP4_8Back: Reset and then Unset is Free; Unset and then Reset is included in the zone.
func TestP4_8Back(t *testing.T) {
	each(t, 100, func(s source, z *dbm.Zone, l []place) {
		for c := 1; c <= z.Dim(); c++ {
			n := s.IntN(7)
			back := must(t)(Unset(must(t)(Reset(z, c, n)), c, n))
			if !back.Includes(z) || !back.Equal(must(t)(Free(z, c))) {
				t.Fatal(z.Print(), c, n, back.Print())
			}
			if again := must(t)(Reset(must(t)(Unset(z, c, n)), c, n)); !z.Includes(again) {
				t.Fatal(z.Print(), c, n, again.Print())
			}
		}
	})
}

// TestP4_9Order: And is Constrain by all cells, and no order matters.
func TestP4_9Order(t *testing.T) {
	each(t, 100, func(s source, z *dbm.Zone, l []place) {
		n := z.Dim()
		a, _ := s.zone(t, n, 4)
		b, _ := s.zone(t, n, 4)
		var limits []api.Limit
		for _, o := range []*dbm.Zone{a, b} {
			for at, c := range o.Cells() {
				limits = append(limits, api.Limit{I: at / (n + 1), J: at % (n + 1), Bound: c})
			}
		}
		all := must(t)(And(z, a, b))
		if o := must(t)(Constrain(z, limits...)); !o.Equal(all) {
			t.Fatal(all.Print(), o.Print())
		}
		slices.Reverse(limits)
		if o := must(t)(Constrain(z, limits...)); !o.Equal(all) {
			t.Fatal(all.Print(), o.Print())
		}
		for _, o := range []*dbm.Zone{must(t)(And(z, b, a)), must(t)(And(b, a, z)), must(t)(And(a, z, b, a)), must(t)(And(must(t)(And(z, a)), b))} {
			if !o.Equal(all) {
				t.Fatal(all.Print(), o.Print())
			}
		}
	})
}

// TestP4_10Hull: it includes all, and each zone that does so includes it.
func TestP4_10Hull(t *testing.T) {
	each(t, 100, func(s source, z *dbm.Zone, l []place) {
		n := z.Dim()
		list := []*dbm.Zone{z}
		for range s.IntN(4) {
			o, _ := s.zone(t, n, 4)
			list = append(list, o)
		}
		given := slices.Clone(list)
		hull := must(t)(Hull(z, list[1:]...))
		if hull == z || !slices.Equal(list, given) {
			t.Fatal("not new, or changed")
		}
		full := slices.ContainsFunc(list, func(o *dbm.Zone) bool { return !o.Empty() })
		if hull.Empty() == full {
			t.Fatal(hull.Print(), full)
		}
		for _, o := range list {
			if !hull.Includes(o) {
				t.Fatal(hull.Print(), o.Print())
			}
		}
		slices.Reverse(list)
		if o := must(t)(Hull(list[0], list[1:]...)); !o.Equal(hull) {
			t.Fatal(hull.Print(), o.Print())
		}
		if !full {
			return
		}
		// Any bound that is stricter than one of it leaves out some valuation of one of them: so there is no lesser zone.
		for at, b := range hull.Cells() {
			if at/(n+1) == at%(n+1) {
				continue
			}
			stricter := api.Limit{I: at / (n + 1), J: at % (n + 1), Bound: b - 1}
			if b == api.Inf {
				stricter.Bound = atMost(1000)
			}
			less := must(t)(Constrain(hull, stricter))
			if !slices.ContainsFunc(list, func(o *dbm.Zone) bool { return !less.Includes(o) }) {
				t.Fatal(hull.Print(), less.Print())
			}
		}
	})
}

// TestP4Spare: what lies behind the end of a list that is handed in stays as it is.
func TestP4Spare(t *testing.T) {
	z := must(t)(dbm.Universe(2))
	limits := []api.Limit{{I: 1, Bound: 7}, {I: 2, Bound: 9}}
	guards := []api.Guard{{Clock: 1, Cmp: api.Eq}, {Clock: 2, Cmp: api.Eq, N: 5}}
	list := []*dbm.Zone{z, nil}
	clocks := []int{1, 77}
	must(t)(Constrain(z, limits[:1]...))
	must(t)(Guards(z, guards[:1]...))
	must(t)(And(z, list[:1]...))
	must(t)(Hull(z, list[:1]...))
	must(t)(Keep(z, clocks[:1]...))
	must(t)(Free(z, clocks[:1]...))
	if limits[1] != (api.Limit{I: 2, Bound: 9}) || guards[1] != (api.Guard{Clock: 2, Cmp: api.Eq, N: 5}) || list[1] != nil || clocks[1] != 77 {
		t.Error(limits, guards, list, clocks)
	}
}

// TestP4Examples: the examples of the chapter.
func TestP4Examples(t *testing.T) {
	z := must(t)(Up(must(t)(dbm.Zero(2))))
	z = must(t)(Constrain(z, api.Limit{I: 1, Bound: lessThan(3)}))
	z = must(t)(Up(must(t)(Reset(z, 1, 0))))
	if s := z.Print(); s != "2: x1-x2<=0 x2-x1<3" {
		t.Error(s)
	}
	if l, err := Limits(api.Guard{Clock: 1, Cmp: api.Eq, N: 3}); err != api.OK || !slices.Equal(l, []api.Limit{{I: 1, Bound: atMost(3)}, {J: 1, Bound: atMost(-3)}}) {
		t.Error(l, err)
	}
	if l, err := Limits(api.Guard{Clock: 1, Other: 2, Cmp: api.Gt, N: 1}); err != api.OK || !slices.Equal(l, []api.Limit{{I: 2, J: 1, Bound: lessThan(-1)}}) {
		t.Error(l, err)
	}
	o, err := Reset(z, 0, 0)
	isNone(t, o, err, api.ErrClock)
	o, err = Reset(z, 1, -1)
	isNone(t, o, err, api.ErrConst)
	if o := must(t)(Keep(z)); !o.Equal(must(t)(dbm.Zero(0))) {
		t.Error(o.Print())
	}
}
