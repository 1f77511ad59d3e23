package dbm

import (
	"bytes"
	"math"
	"slices"
	"strings"
	"testing"

	"gnomon/api"
)

// noClocks are numbers of clocks that may not be.
func noClocks() []int {
	return []int{math.MinInt, -1 << 32, -2, -1, api.MaxClocks + 1, api.MaxClocks + 2, 256, 1 << 32, math.MaxInt}
}

// TestP3_1UniverseZero: all valuations, and the one in which all clocks are 0.
func TestP3_1UniverseZero(t *testing.T) {
	for n := 0; n <= api.MaxClocks; n++ {
		u, z := must(t)(Universe(n)), must(t)(Zero(n))
		for i := 0; i <= n; i++ {
			for j := 0; j <= n; j++ {
				want := api.Inf
				if i == 0 || i == j {
					want = atMost(0)
				}
				if b, err := u.Cell(i, j); b != want || err != api.OK {
					t.Error("Universe", n, i, j, b, err)
				}
				if b, err := z.Cell(i, j); b != atMost(0) || err != api.OK {
					t.Error("Zero", n, i, j, b, err)
				}
			}
		}
	}
	for _, n := range noClocks() {
		if z, err := Universe(n); z != nil || err != api.ErrClock {
			t.Error("Universe", n, z, err)
		}
		if z, err := Zero(n); z != nil || err != api.ErrClock {
			t.Error("Zero", n, z, err)
		}
	}
}

// TestP3_1OfModel: the cells of Of are those that another way of closing tells, and ErrBound comes up just where it says so.
func TestP3_1OfModel(t *testing.T) {
	s := newSource(1)
	full, empty, beyond := 0, 0, 0
	check := func(n int, cells []api.Bound) {
		given := slices.Clone(cells)
		z, err := Of(n, cells)
		want, wantErr := model(n, cells)
		if err != wantErr || !slices.Equal(z.Cells(), want) || (z == nil) != (err != api.OK) {
			t.Fatal("Of", n, cells, z.Cells(), err, want, wantErr)
		}
		if !slices.Equal(cells, given) {
			t.Fatal("changed", given, cells)
		}
		switch {
		case err != api.OK:
			beyond++
		case z.Empty():
			empty++
		default:
			full++
		}
	}
	for n := 0; n <= api.MaxClocks; n++ {
		for k := range 600 {
			check(n, s.cells(n, func() api.Bound { return s.small(5) }))
			check(n, s.cells(n, s.great))
			check(n, s.around(n, 1+k))
			check(n, s.around(n, api.MaxBound+k%3-2))
			check(n, s.around(n, api.MaxBound+api.MaxBound/2))
			sparse := s.cells(n, func() api.Bound {
				if s.IntN(2*n+2) == 0 {
					return s.great()
				}
				return api.Inf
			})
			check(n, sparse)
		}
	}
	if full < 1000 || empty < 1000 || beyond < 500 {
		t.Error("the inputs are all of one kind", full, empty, beyond)
	}
}

// TestP3_1OfSmall: each matrix of one clock with small bounds, and each of none.
func TestP3_1OfSmall(t *testing.T) {
	list := []api.Bound{api.Inf, least, most}
	for b := api.Bound(-5); b <= 6; b++ {
		list = append(list, b)
	}
	for _, a := range list {
		for _, b := range list {
			for _, c := range list {
				for _, d := range []api.Bound{-1, 0, 1, 2, api.Inf} {
					cells := []api.Bound{d, a, b, c}
					want, wantErr := model(1, cells)
					if z, err := Of(1, cells); err != wantErr || !slices.Equal(z.Cells(), want) {
						t.Fatal(cells, z.Cells(), err, want, wantErr)
					}
				}
			}
		}
		z, err := Of(0, []api.Bound{a})
		if err != api.OK || z.Empty() != (a < atMost(0)) || z.Dim() != 0 || len(z.Cells()) != 1 {
			t.Error(a, z.Cells(), err)
		}
	}
}

// chain bounds each clock less the one ahead of it.
func chain(l ...api.Bound) []api.Limit {
	var out []api.Limit
	for i, b := range l {
		out = append(out, api.Limit{I: i + 1, J: i, Bound: b})
	}
	return out
}

// TestP3_1Bound: ErrBound just where the zone is not empty, and a closed finite cell may not be.
func TestP3_1Bound(t *testing.T) {
	turned := func(l []api.Limit) []api.Limit {
		for i := range l {
			l[i].I, l[i].J = l[i].J, l[i].I
		}
		return l
	}
	for _, c := range []struct {
		n    int
		l    []api.Limit
		want api.Errno
	}{
		{2, chain(atMost(api.MaxBound), atMost(0)), api.OK},
		{2, chain(atMost(api.MaxBound), atMost(1)), api.ErrBound},
		{2, chain(atMost(api.MaxBound), lessThan(1)), api.ErrBound},
		{2, chain(lessThan(api.MaxBound), lessThan(0)), api.OK},
		{2, chain(lessThan(api.MaxBound), atMost(1)), api.ErrBound},
		{2, chain(most, most), api.ErrBound},
		// The number of the sum is that of Inf.
		{4, chain(most, most, most, atMost(api.MaxBound-1)), api.ErrBound},
		// The sums come up to more than 32 bits, and round to 0.
		{8, chain(most, most, most, most, most, most, most, most), api.ErrBound},
		{8, chain(lessThan(api.MaxBound), lessThan(api.MaxBound), lessThan(api.MaxBound), lessThan(api.MaxBound), lessThan(api.MaxBound), lessThan(api.MaxBound), lessThan(api.MaxBound), lessThan(api.MaxBound)), api.ErrBound},
		{1, turned(chain(atMost(-api.MaxBound))), api.OK},
		{1, turned(chain(lessThan(-api.MaxBound))), api.OK},
		{2, turned(chain(lessThan(-api.MaxBound), atMost(0))), api.OK},
		{2, turned(chain(atMost(-api.MaxBound), lessThan(0))), api.OK},
		{2, turned(chain(atMost(-api.MaxBound), atMost(-1))), api.ErrBound},
		{2, turned(chain(atMost(-api.MaxBound), lessThan(-1))), api.ErrBound},
		{8, turned(chain(least, least, least, least, least, least, least, least)), api.ErrBound},
		{8, turned(chain(atMost(-api.MaxBound), atMost(-api.MaxBound), atMost(-api.MaxBound), atMost(-api.MaxBound), atMost(-api.MaxBound), atMost(-api.MaxBound), atMost(-api.MaxBound), atMost(-api.MaxBound))), api.ErrBound},
	} {
		z, err := Limits(c.n, c.l...)
		if err != c.want || (z == nil) != (err != api.OK) || z.Empty() {
			t.Error(c.l, z.Print(), err)
		}
		// As soon as nothing keeps them all, no cell is asked for.
		z, err = Limits(c.n, append(c.l, api.Limit{I: c.n, Bound: lessThan(0)})...)
		if err != api.OK || !z.Empty() || z.Dim() != c.n {
			t.Error("empty", c.l, z.Print(), err)
		}
	}
}

// TestP3_1OfErrors: the error that is named first.
func TestP3_1OfErrors(t *testing.T) {
	for _, n := range noClocks() {
		for _, cells := range [][]api.Bound{nil, {1}, {api.Inf - 1}, make([]api.Bound, 81), make([]api.Bound, 100)} {
			if z, err := Of(n, cells); z != nil || err != api.ErrClock {
				t.Error(n, len(cells), z, err)
			}
		}
	}
	for n := 0; n <= api.MaxClocks; n++ {
		whole := (n + 1) * (n + 1)
		for _, many := range []int{0, 1, n, whole - 1, whole + 1, 2 * whole, 81, 82, 200} {
			if many == whole {
				continue
			}
			cells := slices.Repeat([]api.Bound{api.Inf - 1}, many)
			if z, err := Of(n, cells); z != nil || err != api.ErrLong {
				t.Error(n, many, z, err)
			}
		}
		for at := range whole {
			for _, b := range wrong() {
				// The other cells would be empty, or pass the bound.
				for _, other := range []api.Bound{api.Inf, least, most} {
					cells := slices.Repeat([]api.Bound{other}, whole)
					cells[at] = b
					if z, err := Of(n, cells); z != nil || err != api.ErrForm {
						t.Error(n, at, b, z, err)
					}
				}
			}
		}
	}
	if z, err := Of(1, nil); z != nil || err != api.ErrLong {
		t.Error(z, err)
	}
}

// TestP3_1Limits: as Of, of the strictest bounds.
func TestP3_1Limits(t *testing.T) {
	s := newSource(2)
	for n := 0; n <= api.MaxClocks; n++ {
		for k := range 400 {
			next := s.great
			if k%2 == 0 {
				next = func() api.Bound { return s.small(4) }
			}
			cells := slices.Repeat([]api.Bound{api.Inf}, (n+1)*(n+1))
			var l []api.Limit
			for range s.IntN(2*n + 3) {
				b := api.Limit{I: s.IntN(n + 1), J: s.IntN(n + 1), Bound: next()}
				l = append(l, b)
				cells[b.I*(n+1)+b.J] = min(cells[b.I*(n+1)+b.J], b.Bound)
			}
			given := slices.Clone(l)
			want, wantErr := model(n, cells)
			z, err := Limits(n, l...)
			if err != wantErr || !slices.Equal(z.Cells(), want) || !slices.Equal(l, given) {
				t.Fatal(n, l, z.Cells(), err, want, wantErr)
			}
		}
	}
}

// TestP3_1LimitsErrors: the error that is named first.
func TestP3_1LimitsErrors(t *testing.T) {
	for _, n := range noClocks() {
		for _, l := range [][]api.Limit{nil, {{}}, {{I: -1}}, {{Bound: api.Inf - 1}}} {
			if z, err := Limits(n, l...); z != nil || err != api.ErrClock {
				t.Error(n, l, z, err)
			}
		}
	}
	for n := 0; n <= api.MaxClocks; n++ {
		var bad []api.Limit
		for _, i := range []int{math.MinInt, -1, n + 1, 9, 1 << 32, math.MaxInt} {
			bad = append(bad, api.Limit{I: i, Bound: api.Inf}, api.Limit{J: i, Bound: 1}, api.Limit{I: i, J: i, Bound: 1})
		}
		for _, b := range wrong() {
			bad = append(bad, api.Limit{Bound: b}, api.Limit{I: n, Bound: b})
		}
		none := api.Limit{Bound: least}
		for _, b := range bad {
			for _, l := range [][]api.Limit{{b}, {none, b}, {b, none}, {none, none, b, none}} {
				if z, err := Limits(n, l...); z != nil || err != api.ErrForm {
					t.Error(n, l, z, err)
				}
			}
		}
	}
	beyond := chain(most, most)
	if z, err := Limits(2, append(beyond, api.Limit{I: 3})...); z != nil || err != api.ErrForm {
		t.Error(z, err)
	}
}

// TestP3_2Faces: Dim, Empty, Cell, Cells.
func TestP3_2Faces(t *testing.T) {
	for n := 0; n <= api.MaxClocks; n++ {
		empty := must(t)(Limits(n, api.Limit{Bound: 0}))
		zero := must(t)(Zero(n))
		if empty.Dim() != n || zero.Dim() != n || !empty.Empty() || zero.Empty() {
			t.Error(n, empty.Dim(), zero.Dim(), empty.Empty(), zero.Empty())
		}
		if c := empty.Cells(); !slices.Equal(c, make([]api.Bound, (n+1)*(n+1))) {
			t.Error(n, c)
		}
		for _, i := range []int{math.MinInt, -1, n + 1, 9, 1 << 32, math.MaxInt} {
			for _, z := range []*Zone{empty, zero} {
				if b, err := z.Cell(i, 0); b != 0 || err != api.ErrClock {
					t.Error(n, i, b, err)
				}
				if b, err := z.Cell(0, i); b != 0 || err != api.ErrClock {
					t.Error(n, i, b, err)
				}
			}
		}
	}
	z := must(t)(Limits(2, chain(5, 9)...))
	cells := z.Cells()
	for at, b := range cells {
		if c, err := z.Cell(at/3, at%3); c != b || err != api.OK {
			t.Error(at, b, c, err)
		}
	}
}

// TestP3_2Callers: what is answered is the caller's.
func TestP3_2Callers(t *testing.T) {
	z := must(t)(Limits(2, chain(5, 9)...))
	cells, key, text := z.Cells(), z.Key(), z.Print()
	for i := range cells {
		cells[i] = 77
	}
	for i := range key {
		key[i] = 77
	}
	_ = append(cells, 5)
	if z.Print() != text || slices.Contains(z.Cells(), 77) || slices.Contains(z.Key()[1:], 77) {
		t.Error(z.Print(), text)
	}
	room := []api.Bound{1, 1, 7, 1, 42, 42}
	kept := must(t)(Of(1, room[:4]))
	if !slices.Equal(room, []api.Bound{1, 1, 7, 1, 42, 42}) {
		t.Error(room)
	}
	room[2] = 1
	if kept.Print() != "1: x1-x0<=3" {
		t.Error(kept.Print())
	}
	l := []api.Limit{{I: 1, Bound: 7}, {I: 1, Bound: 9}, {I: 5, Bound: 3}}
	must(t)(Limits(1, l[:1]...))
	if l[1] != (api.Limit{I: 1, Bound: 9}) || l[2] != (api.Limit{I: 5, Bound: 3}) {
		t.Error(l)
	}
}

// TestP3_2Nil: a nil zone answers zero values, no, or ErrNil.
func TestP3_2Nil(t *testing.T) {
	var z *Zone
	u := must(t)(Universe(0))
	if z.Dim() != 0 || z.Empty() || z.Cells() != nil || z.Key() != nil || z.Print() != "" {
		t.Error(z.Dim(), z.Empty(), z.Cells(), z.Key(), z.Print())
	}
	for _, i := range []int{-1, 0, 1, 9} {
		if b, err := z.Cell(i, i); b != 0 || err != api.ErrNil {
			t.Error(i, b, err)
		}
	}
	for _, o := range []*Zone{nil, u, must(t)(Limits(0, api.Limit{}))} {
		if z.Includes(o) || z.Equal(o) || z.Meets(o) || o.Includes(z) || o.Equal(z) || o.Meets(z) {
			t.Error(o.Print())
		}
	}
}

// TestP3_3Points: Includes, Equal and Meets are held against the valuations that both have.
func TestP3_3Points(t *testing.T) {
	for n := 0; n <= 3; n++ {
		top := 4 - n/2
		all := points(n, 2*top)
		list := append(zones(t, n, 60, top/2), must(t)(Universe(n)), must(t)(Zero(n)), must(t)(Limits(n, api.Limit{})))
		has := make([][]bool, len(list))
		for k, z := range list {
			for _, p := range all {
				has[k] = append(has[k], keeps(n, z.Cells(), int64(n+1), p))
			}
		}
		for a, z := range list {
			for b, o := range list {
				includes, equal, meets := true, true, false
				for k := range all {
					includes = includes && (has[a][k] || !has[b][k])
					equal = equal && has[a][k] == has[b][k]
					meets = meets || has[a][k] && has[b][k]
				}
				if z.Includes(o) != includes || z.Equal(o) != equal || z.Meets(o) != meets {
					t.Fatal(z.Print(), "|", o.Print(), includes, equal, meets)
				}
			}
		}
	}
}

// TestP3_3Dim: of unlike numbers of clocks the answer is no, of empty zones too.
func TestP3_3Dim(t *testing.T) {
	for n := 0; n <= api.MaxClocks; n++ {
		for m := 0; m <= api.MaxClocks; m++ {
			for _, l := range [][]api.Limit{nil, {{}}} {
				z, o := must(t)(Limits(n, l...)), must(t)(Limits(m, l...))
				same := n == m
				if z.Includes(o) != same || z.Equal(o) != same || z.Meets(o) != (same && l == nil) {
					t.Error(n, m, l)
				}
			}
		}
	}
}

// TestP3_3MeetsBeyond: two zones may meet where what they have in common has a cell that may not be.
func TestP3_3MeetsBeyond(t *testing.T) {
	z := must(t)(Limits(2, api.Limit{I: 1, Bound: most}))
	o := must(t)(Limits(2, api.Limit{I: 2, J: 1, Bound: most}))
	if !z.Meets(o) || !o.Meets(z) {
		t.Error(z.Print(), o.Print())
	}
	far := must(t)(Limits(2, api.Limit{J: 2, Bound: least}))
	near := must(t)(Limits(2, api.Limit{I: 2, Bound: most}))
	if far.Meets(near) || near.Meets(far) {
		t.Error(far.Print(), near.Print())
	}
}

// TestP3_4Key: the byte n, and four bytes of each cell.
func TestP3_4Key(t *testing.T) {
	for _, c := range []struct {
		n    int
		l    []api.Limit
		want []byte
	}{
		{0, nil, []byte{0, 0x80, 0, 0, 1}},
		{0, []api.Limit{{}}, []byte{0, 0x80, 0, 0, 0}},
		{1, nil, []byte{1, 0x80, 0, 0, 1, 0x80, 0, 0, 1, 0xff, 0xff, 0xff, 0xff, 0x80, 0, 0, 1}},
		{1, []api.Limit{{I: 1, Bound: most}, {J: 1, Bound: least}}, []byte{1, 0x80, 0, 0, 0, 0x80, 0, 0, 0, 0x80, 0, 0, 0, 0x80, 0, 0, 0}},
		{1, []api.Limit{{I: 1, Bound: most}, {J: 1, Bound: -2*api.MaxBound + 1}}, []byte{1, 0x80, 0, 0, 1, 0x60, 0, 0, 1, 0xa0, 0, 0, 1, 0x80, 0, 0, 1}},
		{1, []api.Limit{{I: 1, Bound: 0x01020304}, {J: 1, Bound: -2}}, []byte{1, 0x80, 0, 0, 1, 0x7f, 0xff, 0xff, 0xfe, 0x81, 2, 3, 4, 0x80, 0, 0, 1}},
	} {
		z := must(t)(Limits(c.n, c.l...))
		if !bytes.Equal(z.Key(), c.want) {
			t.Errorf("%s: %x", z.Print(), z.Key())
		}
	}
}

// TestP3_4Print: texts of zones.
func TestP3_4Print(t *testing.T) {
	for _, c := range []struct {
		n    int
		l    []api.Limit
		want string
	}{
		{0, nil, "0:"},
		{0, []api.Limit{{}}, "0: empty"},
		{8, nil, "8:"},
		{8, []api.Limit{{I: 4, J: 4, Bound: 0}}, "8: empty"},
		{1, []api.Limit{{I: 1, Bound: 11}}, "1: x1-x0<=5"},
		{1, []api.Limit{{I: 1, Bound: 10}, {J: 1, Bound: 0}}, "1: x0-x1<0 x1-x0<5"},
		{1, []api.Limit{{J: 1, Bound: most}}, "1:"},
		{1, []api.Limit{{J: 1, Bound: least}}, "1: x0-x1<-268435456"},
		{1, []api.Limit{{I: 1, Bound: most}}, "1: x1-x0<=268435456"},
		{2, chain(11, 3), "2: x1-x0<=5 x1-x2<=5 x2-x0<=6 x2-x1<=1"},
		{2, []api.Limit{{I: 1, J: 2, Bound: -5}}, "2: x0-x2<=-3 x1-x2<=-3"},
		{8, []api.Limit{{I: 8, J: 7, Bound: 0}}, "8: x0-x7<0 x8-x7<0"},
	} {
		z := must(t)(Limits(c.n, c.l...))
		if z.Print() != c.want {
			t.Error(z.Print(), c.want)
		}
		if p, err := Parse(c.want); err != api.OK || !p.Equal(z) {
			t.Error(c.want, p.Print(), err)
		}
	}
}

// wrongTexts are texts that no zone has.
func wrongTexts() []string {
	return []string{
		"", ":", "1", "empty", " 1:", "1 :", "1: ", "1:empty", "1: Empty", "1:  empty", "1: empty ", "1: empty x1-x0<=5", "1: x1-x0<=5 empty",
		"9:", "9: empty", "10:", "-1:", "-0:", "+1:", "01:", "00:", "1::", "x:", "a1:", "1x:", "18446744073709551617:", "4294967297:", "256:",
		"1:x1-x0<=5", "1: x1-x0<=5 ", "1:  x1-x0<=5", "1: x1-x0<=5\n", "1:\tx1-x0<=5", "\n1:", "1: x1-x0<=5\x00",
		"1: 1-x0<=5", "1: x1-0<=5", "1: 1-0<=5", "1: x1x0<=5", "1: x1--x0<=5", "1: x1-x0-x0<=5", "1: X1-x0<=5", "1: x1 - x0<=5", "1: x1-x0 <=5", "1: x1-x0<= 5", "1: x1+x0<=5", "1: xx1-x0<=5", "1: x-x0<=5", "1: x1-x<=5", "1: x1<=5", "1: -x0<=5", "1: x1-<=5", "1: <=5", "1: x1-x0", "1: x1", "1: x", "1: -",
		"1: x1-x00<=5", "1: x01-x0<=5", "1: x+1-x0<=5", "1: x1-x-0<=5", "1: x-1-x0<=5", "1: x2-x0<=5", "1: x1-x2<=5", "1: x9-x0<=5", "1: x1-x9<=5", "1: x4294967297-x0<=5", "1: x18446744073709551617-x0<=5",
		"1: x1-x0<=05", "1: x1-x0<=+5", "1: x1-x0<=-0", "1: x1-x0<=", "1: x1-x0<", "1: x1-x0=5", "1: x1-x0==5", "1: x1-x0>=5", "1: x1-x0<<5", "1: x1-x0<=5.0", "1: x1-x0<=0x5", "1: x1-x0<=5a", "1: x1-x0<=268435457", "1: x0-x1<-268435457", "1: x1-x0<=4294967301", "1: x1-x0<=18446744073709551621", "1: x1-x0inf", "1: x1-x0<inf", "1: x1-x0<=inf",
		// Told, though it stands in no text.
		"1: x0-x0<=0", "1: x1-x1<=0", "1: x0-x1<=0", "1: x0-x1<=1", "1: x0-x0<0", "0: x0-x0<=0",
		// Empty, but not told so.
		"1: x1-x0<=-1", "1: x1-x0<0", "1: x0-x1<-2 x1-x0<=2", "1: x0-x1<=-3 x1-x0<=2",
		// Twice, or in another order.
		"1: x1-x0<=5 x1-x0<=5", "1: x1-x0<=5 x1-x0<=6", "1: x1-x0<=6 x1-x0<=5", "1: x1-x0<=5 x0-x1<=-3", "2: x2-x0<=6 x1-x0<=5", "2: x2-x1<=1 x1-x0<=5 x2-x0<=6",
		// Not closed.
		"2: x1-x0<=5 x2-x1<=1", "2: x1-x0<=5 x2-x0<=6 x2-x1<=1", "2: x1-x0<=5 x1-x2<=5 x2-x1<=1", "2: x1-x0<=5 x1-x2<=5 x2-x0<=7 x2-x1<=1", "2: x1-x2<=-3", "2: x1-x0<=0 x2-x0<=0",
		// Beyond the bound.
		"2: x1-x0<=268435456 x2-x1<=268435456", "2: x1-x0<=268435456 x2-x0<=536870912 x2-x1<=268435456",
	}
}

// TestP3_4ParseWrong: ErrForm, if no zone has the text.
func TestP3_4ParseWrong(t *testing.T) {
	for _, s := range wrongTexts() {
		if z, err := Parse(s); z != nil || err != api.ErrForm {
			t.Errorf("%q: %v %v", s, z.Print(), err)
		}
	}
	long := "1:" + strings.Repeat(" x1-x0<=5", 100000)
	if z, err := Parse(long); z != nil || err != api.ErrForm {
		t.Error(z.Print(), err)
	}
}

// TestP3_5Points (E1): a valuation is in Of just if it keeps all cells; Of of its Cells is the same.
func TestP3_5Points(t *testing.T) {
	for n := 0; n <= 3; n++ {
		s := newSource(uint64(n) + 30)
		top := 3
		all := points(n, top+2)
		many := []int{20, 3000, 1500, 150}[n]
		full := 0
		for k := range many {
			cells := s.around(n, top)
			if k%3 == 0 {
				cells = s.cells(n, func() api.Bound { return s.small(top) })
			}
			z := must(t)(Of(n, cells))
			some := false
			for _, p := range all {
				in := keeps(n, cells, int64(n+1), p)
				some = some || in
				if in != keeps(n, z.Cells(), int64(n+1), p) {
					t.Fatal(cells, z.Print(), p)
				}
			}
			if z.Empty() == some {
				t.Fatal(cells, z.Print(), some)
			}
			if !z.Empty() {
				full++
			}
			if again := must(t)(Of(n, z.Cells())); !again.Equal(z) || again == z {
				t.Fatal(z.Print(), again.Print())
			}
		}
		if full < many/2 {
			t.Error("too few that are not empty", n, full)
		}
	}
}

// TestP3_6OneForm (E2): the same cells just if Equal; Includes just if nowhere less, or of an empty one.
func TestP3_6OneForm(t *testing.T) {
	for n := 0; n <= api.MaxClocks; n++ {
		list := append(zones(t, n, 60, 3), must(t)(Universe(n)), must(t)(Zero(n)), must(t)(Limits(n, api.Limit{})))
		for _, z := range list {
			for _, o := range list {
				a, b := z.Cells(), o.Cells()
				nowhere := true
				for k := range a {
					nowhere = nowhere && a[k] >= b[k]
				}
				if z.Equal(o) != slices.Equal(a, b) || z.Includes(o) != (nowhere || o.Empty()) {
					t.Fatal(z.Print(), "|", o.Print())
				}
				if z.Equal(o) != (z.Includes(o) && o.Includes(z)) {
					t.Fatal(z.Print(), "|", o.Print())
				}
			}
		}
	}
}

// TestP3_7Closed: no cell is above a sum by another clock, and each is come near to.
func TestP3_7Closed(t *testing.T) {
	for n := 0; n <= api.MaxClocks; n++ {
		for _, z := range zones(t, n, 200, 4) {
			if z.Empty() {
				continue
			}
			c := func(i, j int) weight {
				b, _ := z.Cell(i, j)
				return value(b)
			}
			for i := 0; i <= n; i++ {
				if c(i, i) != (weight{reached: true}) {
					t.Fatal(z.Cells())
				}
				for j := 0; j <= n; j++ {
					for k := 0; k <= n; k++ {
						if c(i, k).plus(c(k, j)).below(c(i, j)) {
							t.Fatal(z.Cells(), i, j, k)
						}
					}
				}
			}
		}
	}
}

// TestP3_7Near: some valuation comes as near to each finite cell as it lets.
func TestP3_7Near(t *testing.T) {
	for n := 1; n <= 3; n++ {
		top := 3
		all := points(n, 2*top+1)
		den := int64(n + 1)
		for _, z := range zones(t, n, []int{0, 300, 200, 40}[n], top) {
			if z.Empty() {
				continue
			}
			for at, b := range z.Cells() {
				w := value(b)
				if w.inf || w.v > int64(2*top) { // farther than the points
					continue
				}
				// Behind a bound that is not reached, it is enough to come above the whole number ahead of it: bounds are whole.
				near := slices.ContainsFunc(all, func(p []int64) bool {
					q := append([]int64{0}, p...)
					d := q[at/(n+1)] - q[at%(n+1)]
					reaches := w.reached && d == w.v*den || !w.reached && d > (w.v-1)*den
					return reaches && keeps(n, z.Cells(), den, p)
				})
				if !near {
					t.Fatal(z.Print(), at, b)
				}
			}
		}
	}
}

// TestP3_8Order: unlike zones have unlike keys, in the order of their matrices.
func TestP3_8Order(t *testing.T) {
	var all []*Zone
	for n := 0; n <= api.MaxClocks; n++ {
		list := append(zones(t, n, 40, 3), must(t)(Universe(n)), must(t)(Limits(n, api.Limit{})))
		if n > 0 {
			list = append(list, must(t)(Limits(n, api.Limit{J: n, Bound: least})), must(t)(Limits(n, api.Limit{I: n, Bound: most})))
		}
		for _, z := range list {
			for _, o := range list {
				if bytes.Compare(z.Key(), o.Key()) != slices.Compare(z.Cells(), o.Cells()) {
					t.Fatal(z.Print(), "|", o.Print())
				}
			}
		}
		all = append(all, list...)
	}
	for _, z := range all {
		for _, o := range all {
			if bytes.Equal(z.Key(), o.Key()) != (z.Dim() == o.Dim() && slices.Equal(z.Cells(), o.Cells())) {
				t.Fatal(z.Print(), "|", o.Print())
			}
		}
	}
}

// TestP3_9Texts: Parse of Print is the zone.
func TestP3_9Texts(t *testing.T) {
	s := newSource(9)
	for n := 0; n <= api.MaxClocks; n++ {
		list := append(zones(t, n, 100, 3), must(t)(Universe(n)), must(t)(Zero(n)))
		for range 100 {
			if z, err := Of(n, s.around(n, api.MaxBound)); err == api.OK {
				list = append(list, z)
			}
		}
		for _, z := range list {
			p, err := Parse(z.Print())
			if err != api.OK || !p.Equal(z) || p.Print() != z.Print() {
				t.Fatal(z.Print(), p.Print(), err)
			}
		}
	}
}

// FuzzP3_9: Print of what Parse takes is what was read.
func FuzzP3_9(f *testing.F) {
	for _, s := range append(wrongTexts(), "0:", "8: empty", "2: x1-x0<=5 x1-x2<=5 x2-x0<=6 x2-x1<=1", "1: x0-x1<0 x1-x0<5") {
		f.Add(s)
	}
	f.Fuzz(func(t *testing.T, s string) {
		z, err := Parse(s)
		if err == api.OK && z.Print() != s || err != api.OK && (z != nil || err != api.ErrForm) {
			t.Errorf("%q: %q %v", s, z.Print(), err)
		}
	})
}

// TestP3_10Meets: two zones meet if and only if the least cells of both make a zone that is not empty.
func TestP3_10Meets(t *testing.T) {
	meets := 0
	for n := 0; n <= api.MaxClocks; n++ {
		list := append(zones(t, n, 60, 3), must(t)(Universe(n)), must(t)(Zero(n)), must(t)(Limits(n, api.Limit{})))
		for _, z := range list {
			for _, o := range list {
				cells := z.Cells()
				for k, b := range o.Cells() {
					cells[k] = min(cells[k], b)
				}
				both := must(t)(Of(n, cells))
				if z.Meets(o) == both.Empty() {
					t.Fatal(z.Print(), "|", o.Print(), both.Print())
				}
				if !both.Empty() {
					meets++
				}
			}
		}
	}
	if meets < 1000 {
		t.Error("too few meet", meets)
	}
}

// TestP3Examples: the examples of the chapter.
func TestP3Examples(t *testing.T) {
	if c := must(t)(Zero(1)).Cells(); !slices.Equal(c, []api.Bound{1, 1, 1, 1}) {
		t.Error(c)
	}
	if c := must(t)(Universe(1)).Cells(); !slices.Equal(c, []api.Bound{1, 1, api.Inf, 1}) {
		t.Error(c)
	}
	if s := must(t)(Universe(2)).Print(); s != "2:" {
		t.Error(s)
	}
	if s := must(t)(Zero(1)).Print(); s != "1: x1-x0<=0" {
		t.Error(s)
	}
	z := must(t)(Limits(1, api.Limit{I: 1, Bound: atMost(2)}, api.Limit{J: 1, Bound: lessThan(-2)}))
	if !z.Empty() || !slices.Equal(z.Cells(), []api.Bound{0, 0, 0, 0}) || z.Print() != "1: empty" {
		t.Error(z.Cells(), z.Print())
	}
	z = must(t)(Limits(2, chain(atMost(5), atMost(1))...))
	if b, err := z.Cell(2, 0); b != atMost(6) || err != api.OK {
		t.Error(b, err)
	}
}
