package extra

import (
	"math"
	"slices"
	"testing"

	"gnomon/api"
	"gnomon/dbm"
	"gnomon/ops"
)

// noConstants are numbers that may be no clock's constants.
func noConstants() []int {
	return []int{math.MinInt, -1 << 32, -api.MaxConst, -2, api.MaxConst + 1, 1 << 31, 1 << 32, 1<<32 + 1, math.MaxInt}
}

// noClocks are numbers that stand for no clock of n.
func noClocks(n int) []int {
	return []int{math.MinInt, -1 << 32, -1, 0, n + 1, api.MaxClocks + 1, 1 << 32, 1<<32 + 1, math.MaxInt}
}

func isNone(t *testing.T, z *dbm.Zone, err, want api.Errno, of ...any) {
	t.Helper()
	if z != nil || err != want {
		t.Error(append(of, z.Print(), err, "want", want)...)
	}
}

// TestP5_1Nil: ErrNil comes ahead of what is wrong with constants and clocks.
func TestP5_1Nil(t *testing.T) {
	for _, l := range [][]int{nil, {}, {0}, {-2}, {1, 2, 3}, make([]int, 100)} {
		z, err := Max(nil, l)
		isNone(t, z, err, api.ErrNil, "Max", l)
		z, err = LU(nil, l, nil)
		isNone(t, z, err, api.ErrNil, "LU", l)
		z, err = LU(nil, nil, l)
		isNone(t, z, err, api.ErrNil, "LU", l)
		z, err = Gone(nil, l...)
		isNone(t, z, err, api.ErrNil, "Gone", l)
	}
}

// TestP5_1Long: as many constants as clocks; ErrLong comes ahead of ErrConst, of the empty zone, too.
func TestP5_1Long(t *testing.T) {
	for n := 0; n <= api.MaxClocks; n++ {
		right := make([]int, n)
		for _, z := range []*dbm.Zone{must(t)(dbm.Universe(n)), must(t)(dbm.Zero(n)), empty(t, n)} {
			for _, many := range []int{0, n - 1, n + 1, n + 2, 9, 100} {
				if many < 0 || many == n {
					continue
				}
				for _, c := range []int{0, -2} {
					wrong := slices.Repeat([]int{c}, many)
					o, err := Max(z, wrong)
					isNone(t, o, err, api.ErrLong, "Max", n, wrong)
					o, err = LU(z, wrong, right)
					isNone(t, o, err, api.ErrLong, "LU", n, wrong)
					o, err = LU(z, right, wrong)
					isNone(t, o, err, api.ErrLong, "LU", n, wrong)
				}
			}
		}
	}
}

// TestP5_1Const: a constant that may not be, at each place, of the empty zone, too.
func TestP5_1Const(t *testing.T) {
	for n := 1; n <= api.MaxClocks; n++ {
		right := slices.Repeat([]int{api.MaxConst}, n)
		for _, z := range []*dbm.Zone{must(t)(dbm.Universe(n)), must(t)(dbm.Zero(n)), empty(t, n)} {
			for at := range n {
				for _, c := range noConstants() {
					wrong := slices.Clone(right)
					wrong[at] = c
					o, err := Max(z, wrong)
					isNone(t, o, err, api.ErrConst, "Max", wrong)
					o, err = LU(z, wrong, right)
					isNone(t, o, err, api.ErrConst, "LU", wrong)
					o, err = LU(z, right, wrong)
					isNone(t, o, err, api.ErrConst, "LU", wrong)
				}
			}
		}
	}
}

// TestP5_1LowerFirst: both errors of the lower constants come ahead of those of the upper ones.
func TestP5_1LowerFirst(t *testing.T) {
	z := must(t)(dbm.Universe(2))
	for _, x := range []struct {
		lo, up []int
		want   api.Errno
	}{
		{[]int{0, -2}, []int{0}, api.ErrConst}, {[]int{0}, []int{0, -2}, api.ErrLong},
		{[]int{-2}, []int{0, 0}, api.ErrLong}, {[]int{0, 0}, []int{-2}, api.ErrLong},
		{[]int{0, 0}, []int{api.MaxConst + 1, 0}, api.ErrConst}, {nil, nil, api.ErrLong},
	} {
		o, err := LU(z, x.lo, x.up)
		isNone(t, o, err, x.want, x.lo, x.up)
	}
}

// TestP5_1Max: by texts, the examples among them.
func TestP5_1Max(t *testing.T) {
	for _, x := range []struct {
		z    string
		most []int
		want string
	}{
		{"0:", nil, "0:"}, {"0:", []int{}, "0:"}, {"0: empty", nil, "0: empty"},
		{"1: x0-x1<=-3 x1-x0<=7", []int{5}, "1: x0-x1<=-3"},
		{"1: x0-x1<=-3 x1-x0<=7", []int{2}, "1: x0-x1<-2"},
		{"1: x0-x1<=-3 x1-x0<=7", []int{3}, "1: x0-x1<=-3"},
		{"1: x0-x1<=-3 x1-x0<=7", []int{7}, "1: x0-x1<=-3 x1-x0<=7"},
		{"1: x0-x1<=-3 x1-x0<=7", []int{6}, "1: x0-x1<=-3"},
		{"1: x0-x1<=-3 x1-x0<=7", []int{api.MaxConst}, "1: x0-x1<=-3 x1-x0<=7"},
		{"1: x0-x1<=-3 x1-x0<=7", []int{0}, "1: x0-x1<0"},
		{"1: x0-x1<=-3 x1-x0<=7", []int{-1}, "1:"},
		{"1: x0-x1<-3 x1-x0<7", []int{7}, "1: x0-x1<-3 x1-x0<7"},
		{"1: x0-x1<-3 x1-x0<7", []int{6}, "1: x0-x1<-3"},
		{"1: x0-x1<-3 x1-x0<7", []int{3}, "1: x0-x1<-3"},
		{"1: x0-x1<-3 x1-x0<7", []int{2}, "1: x0-x1<-2"},
		{"1: x1-x0<=0", []int{0}, "1: x1-x0<=0"}, {"1: x1-x0<=0", []int{-1}, "1:"},
		{"1: x1-x0<1", []int{0}, "1:"}, {"1:", []int{5}, "1:"},
		{"1: x0-x1<0 x1-x0<1", []int{0}, "1: x0-x1<0"},
		{"1: empty", []int{5}, "1: empty"}, {"1: empty", []int{-1}, "1: empty"}, {"2: empty", []int{-1, 0}, "2: empty"},
		{"2: x2-x1<=9", []int{5, 5}, "2:"},
		{"2: x2-x1<=9", []int{0, 9}, "2: x2-x1<=9"}, {"2: x2-x1<=9", []int{9, 8}, "2:"},
		{"2: x2-x1<=9", []int{-1, 9}, "2:"},
		{"2: x0-x1<=-4 x2-x1<=-4", []int{4, 0}, "2: x0-x1<=-4 x2-x1<=-4"},
		{"2: x0-x1<=-4 x2-x1<=-4", []int{3, 9}, "2: x0-x1<-3 x2-x1<-3"},
		{"2: x0-x1<=-4 x2-x1<=-4", []int{3, -1}, "2: x0-x1<-3"},
		{"2: x1-x0<=0 x1-x2<=0 x2-x0<=0 x2-x1<=0", []int{0, -1}, "2: x1-x0<=0 x1-x2<=0"},
		{"2: x1-x0<=0 x1-x2<=0 x2-x0<=0 x2-x1<=0", []int{-1, -1}, "2:"},
	} {
		if s := must(t)(Max(parse(t, x.z), x.most)).Print(); s != x.want {
			t.Error(x, s)
		}
	}
}

// TestP5_1LU: the lower constants take bounds off, the upper ones let clocks be lower; a clock goes only if both are -1.
func TestP5_1LU(t *testing.T) {
	for _, x := range []struct {
		z      string
		lo, up []int
		want   string
	}{
		{"0:", nil, nil, "0:"}, {"1: empty", []int{0}, []int{0}, "1: empty"},
		{"1: x0-x1<=-3 x1-x0<=7", []int{7}, []int{2}, "1: x0-x1<-2 x1-x0<=7"},
		{"1: x0-x1<=-3 x1-x0<=7", []int{6}, []int{3}, "1: x0-x1<=-3"},
		{"1: x0-x1<=-3 x1-x0<=7", []int{7}, []int{-1}, "1: x0-x1<0 x1-x0<=7"},
		{"1: x0-x1<=-3 x1-x0<=7", []int{-1}, []int{5}, "1: x0-x1<=-3"},
		{"1: x0-x1<=-3 x1-x0<=7", []int{-1}, []int{0}, "1: x0-x1<0"},
		{"1: x0-x1<=-3 x1-x0<=7", []int{-1}, []int{-1}, "1:"},
		{"1: x1-x0<=0", []int{-1}, []int{0}, "1: x1-x0<=0"}, {"1: x1-x0<=0", []int{0}, []int{-1}, "1: x1-x0<=0"},
		{"1: x1-x0<1", []int{-1}, []int{5}, "1:"}, {"1: x1-x0<1", []int{1}, []int{-1}, "1: x1-x0<1"},
		{"2: x0-x1<=-4 x2-x1<=-4", []int{0, 0}, []int{3, 0}, "2: x0-x1<-3 x2-x1<-3"},
		{"2: x0-x1<=-4 x2-x1<=-4", []int{9, 9}, []int{0, 9}, "2: x0-x1<0 x2-x1<0"},
		{"2: x2-x1<=9", []int{0, 9}, []int{-1, -1}, "2: x2-x1<=9"},
		{"2: x2-x1<=9", []int{-1, 9}, []int{0, -1}, "2: x2-x1<=9"}, {"2: x2-x1<=9", []int{-1, 9}, []int{-1, 9}, "2:"},
		{"2: x2-x1<=9", []int{0, 9}, []int{-1, 0}, "2: x2-x1<=9"},
		{"2: x2-x1<=9", []int{20, 8}, []int{20, 20}, "2:"},
	} {
		if s := must(t)(LU(parse(t, x.z), x.lo, x.up)).Print(); s != x.want {
			t.Error(x, s)
		}
	}
}

// TestP5_1Empty: an empty zone stays as it is, of all numbers of clocks, and is a new one.
func TestP5_1Empty(t *testing.T) {
	for n := 0; n <= api.MaxClocks; n++ {
		z := empty(t, n)
		for _, c := range []int{-1, 0, 1, api.MaxConst} {
			l := slices.Repeat([]int{c}, n)
			for _, o := range []*dbm.Zone{must(t)(Max(z, l)), must(t)(LU(z, l, make([]int, n))), must(t)(LU(z, make([]int, n), l))} {
				if o == z || !o.Equal(z) {
					t.Error(n, c, o.Print())
				}
			}
		}
	}
}

// TestP5_1AtOneTime: each cell is widened as it is in the closed form, whatever becomes of the others: here those of 3, less 1 and less 2, stay, though what made them goes.
func TestP5_1AtOneTime(t *testing.T) {
	z := must(t)(dbm.Limits(3, api.Limit{I: 2, Bound: atMost(9)}, api.Limit{I: 3, J: 2, Bound: atMost(-9)}))
	want := "3: x0-x2<-4 x3-x0<=0 x3-x1<=0 x3-x2<-4"
	if s := must(t)(Max(z, []int{4, 4, 4})).Print(); s != want {
		t.Error(z.Print(), s)
	}
}

// TestP5_1Model: the cells are the closed form of the bounds that the words tell.
func TestP5_1Model(t *testing.T) {
	gone, changed := 0, 0
	each(t, 150, func(s source, z *dbm.Zone, top int, _ []int) {
		lo, up := s.constants(z.Dim(), top+1), s.constants(z.Dim(), top+1)
		want, wantMax := z, z
		if !z.Empty() {
			want = must(t)(dbm.Of(z.Dim(), widened(t, z, lo, up)))
			wantMax = must(t)(dbm.Of(z.Dim(), widened(t, z, lo, lo)))
		}
		if o := must(t)(LU(z, lo, up)); !o.Equal(want) {
			t.Fatal("LU", z.Print(), lo, up, o.Print(), want.Print())
		}
		if o := must(t)(Max(z, lo)); !o.Equal(wantMax) {
			t.Fatal("Max", z.Print(), lo, o.Print(), wantMax.Print())
		}
		if slices.Contains(lo, -1) {
			gone++
		}
		if !want.Equal(z) {
			changed++
		}
	})
	if gone < 100 || changed < 100 {
		t.Error("few", gone, changed)
	}
}

func TestP5_2Greatest(t *testing.T) {
	for _, x := range []struct {
		l    [][]int
		want []int
	}{
		{nil, nil}, {[][]int{nil}, nil}, {[][]int{{}, nil, {}}, nil}, {[][]int{{3}}, []int{3}},
		{[][]int{{1, 5}, {2, -1, 4}}, []int{2, 5, 4}}, {[][]int{{2, -1, 4}, {1, 5}}, []int{2, 5, 4}},
		{[][]int{{-1, -1}, {-1}}, []int{-1, -1}}, {[][]int{{-7}, {-9, -8}}, []int{-7, -8}}, {[][]int{{}, {-5}}, []int{-5}},
		{[][]int{{math.MinInt}, {math.MinInt}}, []int{math.MinInt}}, {[][]int{{math.MinInt, 0}, {math.MaxInt, math.MinInt}}, []int{math.MaxInt, 0}},
		{[][]int{nil, {1, 2, 3}, nil, {3, 2, 1}, {0}}, []int{3, 2, 3}},
		{[][]int{{0, 0, 0, 0, 0, 0, 0, 0, 0, 7}, {1}}, []int{1, 0, 0, 0, 0, 0, 0, 0, 0, 7}},
	} {
		if got := Greatest(x.l...); !slices.Equal(got, x.want) {
			t.Error(x, got)
		}
	}
}

func TestP5_2Gone(t *testing.T) {
	for _, x := range []struct {
		z      string
		clocks []int
		want   string
	}{
		{"0:", nil, "0:"}, {"0: empty", nil, "0: empty"}, {"1: x1-x0<=0", nil, "1: x1-x0<=0"}, {"1: x1-x0<=0", []int{1}, "1:"},
		{"1: x0-x1<-3 x1-x0<=5", []int{1, 1}, "1:"}, {"1: empty", []int{1}, "1: empty"}, {"3: empty", []int{3, 1, 2}, "3: empty"},
		{"2: x0-x1<=-4 x2-x1<=-4", []int{1}, "2:"}, {"2: x0-x1<=-4 x2-x1<=-4", []int{2}, "2: x0-x1<=-4"},
		{"2: x1-x0<=0 x1-x2<=0 x2-x0<=0 x2-x1<=0", []int{2}, "2: x1-x0<=0 x1-x2<=0"},
		{"2: x1-x0<=0 x1-x2<=0 x2-x0<=0 x2-x1<=0", []int{2, 1}, "2:"},
	} {
		if s := must(t)(Gone(parse(t, x.z), x.clocks...)).Print(); s != x.want {
			t.Error(x, s)
		}
	}
	for n := 0; n <= api.MaxClocks; n++ {
		for _, z := range []*dbm.Zone{must(t)(dbm.Zero(n)), empty(t, n)} {
			for _, c := range noClocks(n) {
				for _, l := range [][]int{{c}, {c, 1}, {1, c}, {1, n, c}} {
					o, err := Gone(z, l...)
					isNone(t, o, err, api.ErrClock, n, l)
				}
			}
			if o := must(t)(Gone(z)); o == z || !o.Equal(z) {
				t.Error(n, o.Print())
			}
		}
	}
}

// TestP5_3Wider: what is widened includes the zone; greater constants widen less; Max is LU with the same constants twice.
func TestP5_3Wider(t *testing.T) {
	each(t, 150, func(s source, z *dbm.Zone, top int, _ []int) {
		lo, up := s.constants(z.Dim(), top+1), s.constants(z.Dim(), top+1)
		less, lessUp := slices.Clone(lo), slices.Clone(up)
		for i := range lo {
			less[i] -= s.IntN(lo[i] + 2)
			lessUp[i] -= s.IntN(up[i] + 2)
		}
		wide, wider := must(t)(LU(z, lo, up)), must(t)(LU(z, less, lessUp))
		if !wide.Includes(z) || !wider.Includes(wide) {
			t.Error(z.Print(), lo, up, less, lessUp, wide.Print(), wider.Print())
		}
		wide, wider = must(t)(Max(z, lo)), must(t)(Max(z, less))
		if !wide.Includes(z) || !wider.Includes(wide) {
			t.Error(z.Print(), lo, less, wide.Print(), wider.Print())
		}
		if twice := must(t)(LU(z, lo, lo)); !twice.Equal(wide) {
			t.Error(z.Print(), lo, twice.Print(), wide.Print())
		}
		great := slices.Repeat([]int{api.MaxConst}, z.Dim())
		if same := must(t)(Max(z, great)); !same.Equal(z) {
			t.Error(z.Print(), same.Print())
		}
	})
}

// TestP5_4Valuations (E1): a valuation is in what is widened just if it keeps the widened bounds.
func TestP5_4Valuations(t *testing.T) {
	in, out := 0, 0
	each(t, 60, func(s source, z *dbm.Zone, top int, p []int) {
		if z.Empty() {
			return
		}
		lo, up := s.constants(z.Dim(), top), s.constants(z.Dim(), top)
		byMax, byLU := must(t)(Max(z, lo)).Cells(), must(t)(LU(z, lo, up)).Cells()
		wordsMax, wordsLU := widened(t, z, lo, lo), widened(t, z, lo, up)
		for _, q := range s.places(z.Dim(), top+3, p) {
			if q.keepsAll(byMax) != q.keepsAll(wordsMax) || q.keepsAll(byLU) != q.keepsAll(wordsLU) {
				t.Fatal(z.Print(), lo, up, q)
			}
			if q.keepsAll(byMax) && !q.keepsAll(z.Cells()) {
				in++
			}
			if !q.keepsAll(byMax) {
				out++
			}
		}
	})
	if in < 100 || out < 100 {
		t.Error("few", in, out)
	}
}

// guardsUpTo are all guards of a clock against numbers from 0 to its constant.
func guardsUpTo(clock, constant int) []api.Guard {
	var l []api.Guard
	for n := range constant + 1 {
		for c := api.Lt; c <= api.Gt; c++ {
			l = append(l, api.Guard{Clock: clock, Cmp: c, N: n})
		}
	}
	return l
}

// TestP5_5Guards: no guard tells a zone from what Max makes of it, nor do several of one clock.
func TestP5_5Guards(t *testing.T) {
	each(t, 25, func(s source, z *dbm.Zone, top int, _ []int) {
		constants := s.constants(z.Dim(), min(top, 3))
		wide := must(t)(Max(z, constants))
		for at, c := range constants {
			for _, g := range guardsUpTo(at+1, c) {
				for _, h := range guardsUpTo(at+1, c) {
					l := []api.Guard{g, h, g}
					if must(t)(ops.Guards(z, l...)).Empty() != must(t)(ops.Guards(wide, l...)).Empty() {
						t.Fatal(z.Print(), constants, wide.Print(), l)
					}
				}
			}
		}
	})
}

// TestP5_6Gone: valuations that differ in these clocks alone are all in, or none is; and those of the zone are in, and of the others nothing is lost.
func TestP5_6Gone(t *testing.T) {
	each(t, 60, func(s source, z *dbm.Zone, top int, p []int) {
		var clocks []int
		for i := 1; i <= z.Dim(); i++ {
			if s.IntN(2) == 0 {
				clocks = append(clocks, i)
			}
		}
		open := must(t)(Gone(z, clocks...))
		if !open.Includes(z) || !open.Equal(without(t, z, clocks...)) {
			t.Fatal(z.Print(), clocks, open.Print())
		}
		for _, q := range s.places(z.Dim(), top, p) {
			in := q.keepsAll(open.Cells())
			for _, c := range clocks {
				for _, v := range []int64{0, 1, q.at[c] + 1, 1 << 40} {
					q = q.with(c, v)
					if q.keepsAll(open.Cells()) != in {
						t.Fatal(z.Print(), clocks, open.Print(), q)
					}
				}
			}
		}
	})
}

// TestE3WithinTheBounds: bounds at the ends of what may be become those of the constants, of the least and the most clocks.
func TestE3WithinTheBounds(t *testing.T) {
	z := must(t)(dbm.Limits(1, api.Limit{I: 1, Bound: most}, api.Limit{J: 1, Bound: least + 1}))
	if s := must(t)(Max(z, []int{api.MaxConst})).Print(); s != "1: x0-x1<-1048576" {
		t.Error(s)
	}
	z = must(t)(dbm.Limits(2, api.Limit{I: 1, J: 2, Bound: least}, api.Limit{I: 1, Bound: 1}))
	if s := must(t)(LU(z, []int{0, 0}, []int{0, api.MaxConst})).Print(); s != "2: x0-x2<-1048576 x1-x0<=0 x1-x2<-1048576" {
		t.Error(s)
	}
	z = must(t)(dbm.Limits(1, api.Limit{I: 1, Bound: atMost(api.MaxConst)}, api.Limit{J: 1, Bound: atMost(-api.MaxConst)}))
	if s := must(t)(Max(z, []int{api.MaxConst})).Print(); s != "1: x0-x1<=-1048576 x1-x0<=1048576" {
		t.Error(s)
	}
	if s := must(t)(Max(z, []int{api.MaxConst - 1})).Print(); s != "1: x0-x1<-1048575" {
		t.Error(s)
	}
	var chain []api.Limit
	for i := 1; i <= api.MaxClocks; i++ {
		chain = append(chain, api.Limit{I: i, J: i - 1, Bound: atMost(api.MaxConst)}, api.Limit{I: i - 1, J: i, Bound: atMost(-api.MaxConst)})
	}
	z = must(t)(dbm.Limits(api.MaxClocks, chain...))
	great := slices.Repeat([]int{api.MaxConst}, api.MaxClocks)
	o := must(t)(Max(z, great))
	if want := must(t)(dbm.Of(api.MaxClocks, widened(t, z, great, great))); !o.Equal(want) {
		t.Error(o.Print(), want.Print())
	}
	if b, err := o.Cell(api.MaxClocks, 0); b != atMost(api.MaxClocks*api.MaxConst) || err != api.OK {
		t.Error("not the sum of all", b, err)
	}
}

// TestP3StaysAsItIs: what is handed in does not change, nor does the room behind it; what is answered is the caller's.
func TestP3StaysAsItIs(t *testing.T) {
	z := must(t)(dbm.Limits(2, api.Limit{J: 1, Bound: -5}, api.Limit{I: 1, Bound: 15}, api.Limit{I: 2, Bound: 40}))
	before := z.Print()
	room := []int{-1, 5, 77, -1, 3, 88}
	keep := slices.Clone(room)
	lo, up := room[:2], room[3:5]
	first := must(t)(LU(z, lo, up)).Print()
	list := []*dbm.Zone{must(t)(Max(z, lo)), must(t)(LU(z, lo, up)), must(t)(Gone(z, room[4:4]...)), must(t)(Gone(z))}
	longest := Greatest(lo, up)
	alone := Greatest(lo)
	none := Greatest(lo[:0])
	longest = append(longest, 9)
	alone[0] = 99
	alone = append(alone, 98)
	none = append(none, 97)
	if longest[0] != -1 || longest[1] != 5 || alone[0] != 99 || none[0] != 97 {
		t.Error(longest, alone, none)
	}
	if !slices.Equal(room, keep) || z.Print() != before {
		t.Error(room, z.Print())
	}
	for _, o := range list {
		if o == z {
			t.Error("not a new one", o.Print())
		}
	}
	room[0], room[3] = 20, 20
	if s := list[1].Print(); s != first {
		t.Error("hangs on the constants that were handed in", s, first)
	}
	if again := must(t)(LU(z, keep[:2], keep[3:5])).Print(); again != first {
		t.Error(again, first)
	}
}
