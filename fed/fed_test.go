package fed

import (
	"math"
	"slices"
	"testing"

	"gnomon/api"
	"gnomon/dbm"
)

// noClocks are numbers of clocks that may not be.
func noClocks() []int {
	return []int{math.MinInt, -1 << 32, -2, -1, api.MaxClocks + 1, 256, 1 << 32, math.MaxInt}
}

// TestP7_1New: the zones that are not empty, in order.
func TestP7_1New(t *testing.T) {
	for n := 0; n <= api.MaxClocks; n++ {
		s := newSource(uint64(n))
		none, all := empty(t, n), universe(t, n)
		if f := union(t, n); f.Dim() != n || len(f.Zones()) != 0 || !f.Empty() {
			t.Error(n, f.Dim(), texts(f), f.Empty())
		}
		if f := union(t, n, none, none); f.Dim() != n || len(f.Zones()) != 0 || !f.Empty() {
			t.Error(n, f.Dim(), texts(f), f.Empty())
		}
		l := append(s.zones(t, n, 5, 3), all, all)
		want := texts(&Fed{row{zones: l}})
		f := union(t, n, none, l[0], l[1], none, none, l[2], l[3], l[4], l[5], l[6], none)
		if f.Dim() != n || f.Empty() || !slices.Equal(texts(f), want) {
			t.Error(n, texts(f), want)
		}
	}
}

// TestP7_1Errors: the error that is named first.
func TestP7_1Errors(t *testing.T) {
	check := func(n int, want api.Errno, l ...*dbm.Zone) {
		t.Helper()
		if f, err := New(n, l...); f != nil || err != want {
			t.Error(n, f, err, want)
		}
	}
	u1, u2 := universe(t, 1), universe(t, 2)
	many := slices.Repeat([]*dbm.Zone{u1}, api.MaxFed+1)
	for _, n := range noClocks() {
		check(n, api.ErrClock)
		check(n, api.ErrClock, nil)
		check(n, api.ErrClock, u1, nil)
		check(n, api.ErrClock, many...)
	}
	for n := 0; n <= api.MaxClocks; n++ {
		u, e, other := universe(t, n), empty(t, n), (n+1)%(api.MaxClocks+1)
		o, oe := universe(t, other), empty(t, other)
		check(n, api.ErrNil, nil)
		check(n, api.ErrNil, u, nil)
		check(n, api.ErrNil, nil, u)
		check(n, api.ErrNil, o, nil)
		check(n, api.ErrNil, e, nil, oe)
		check(n, api.ErrDim, o)
		check(n, api.ErrDim, oe)
		check(n, api.ErrDim, u, e, o)
		check(n, api.ErrDim, oe, u)
	}
	check(1, api.ErrFull, many...)
	check(1, api.ErrDim, append(slices.Clone(many), u2)...)
	check(1, api.ErrDim, append([]*dbm.Zone{empty(t, 2)}, many...)...)
	check(1, api.ErrNil, append(slices.Clone(many), u2, nil)...)
	check(1, api.ErrNil, append([]*dbm.Zone{nil}, many...)...)
}

// TestP7_1Full: MaxFed zones may be, and empty ones beside them; one more may not.
func TestP7_1Full(t *testing.T) {
	l, none := points(t, api.MaxFed), empty(t, 1)
	whole := union(t, 1, slices.Concat([]*dbm.Zone{none}, l, []*dbm.Zone{none, none})...)
	if !slices.Equal(texts(whole), texts(&Fed{row{zones: l}})) {
		t.Error(len(whole.Zones()))
	}
	if f, err := New(1, append(slices.Clone(l), none, l[0])...); f != nil || err != api.ErrFull {
		t.Error(f, err)
	}
	if f, err := whole.Plus(); err != api.OK || len(f.Zones()) != api.MaxFed {
		t.Error(err)
	}
	if f, err := whole.Plus(none, none); err != api.OK || len(f.Zones()) != api.MaxFed {
		t.Error(err)
	}
	for _, more := range [][]*dbm.Zone{{l[0]}, {none, universe(t, 1)}, {l[1], none, l[2]}} {
		if f, err := whole.Plus(more...); f != nil || err != api.ErrFull {
			t.Error(f, err)
		}
	}
	if f, err := union(t, 1, l[1:]...).Plus(l[0]); err != api.OK || len(f.Zones()) != api.MaxFed {
		t.Error(err)
	}
	if f, err := union(t, 1).Plus(append(slices.Clone(l), l[0])...); f != nil || err != api.ErrFull {
		t.Error(f, err)
	}
	if !whole.Has([]api.Rat{{Num: api.MaxFed - 1, Den: 1}}) || whole.Has([]api.Rat{{Num: api.MaxFed, Den: 1}}) || whole.Has([]api.Rat{{Num: 1, Den: 2}}) {
		t.Error("Has")
	}
}

func TestP7_1Has(t *testing.T) {
	in, out := 0, 0
	for n := 0; n <= api.MaxClocks; n++ {
		s := newSource(uint64(100 + n))
		for k := range 40 {
			l := s.zones(t, n, k%5, 3)
			f := union(t, n, l...)
			for _, p := range s.near(n, 40, 5) {
				want := p.inOne(l)
				if f.Has(p.valuation()) != want {
					t.Fatal(texts(f), p, want)
				}
				if want {
					in++
				} else {
					out++
				}
			}
		}
	}
	if in < 1000 || out < 1000 {
		t.Error("few", in, out)
	}
}

// TestP7_1HasWrong: valuations that are not right, or of another number of clocks, are in no union.
func TestP7_1HasWrong(t *testing.T) {
	for n := 0; n <= api.MaxClocks; n++ {
		f := union(t, n, universe(t, n))
		for m := range api.MaxClocks + 3 {
			v := slices.Repeat([]api.Rat{{Num: 1, Den: 2}}, m)
			if f.Has(v) != (n == m) {
				t.Error(n, m)
			}
			if m == 0 {
				continue
			}
			for _, r := range []api.Rat{{}, {Num: 1}, {Num: 2, Den: 4}, {Num: 1, Den: -1}, {Num: -1, Den: 2}, {Num: math.MinInt64, Den: 1}, {Num: 0, Den: 3}, {Num: 1, Den: math.MinInt64}} {
				v[m-1] = r
				if f.Has(v) {
					t.Error(n, v)
				}
			}
		}
		if union(t, n).Has(make([]api.Rat, n)) || union(t, n).Has(slices.Repeat([]api.Rat{{Num: 0, Den: 1}}, n)) {
			t.Error("of no zones", n)
		}
	}
}

func TestP7_2Plus(t *testing.T) {
	for n := 0; n <= api.MaxClocks; n++ {
		s := newSource(uint64(200 + n))
		a, b, none := s.zones(t, n, 3, 3), s.zones(t, n, 3, 3), empty(t, n)
		f := union(t, n, a...)
		g := must[Fed](t)(f.Plus(none, b[0], none, b[1], b[2], a[0]))
		if want := texts(union(t, n, a[0], a[1], a[2], b[0], b[1], b[2], a[0])); g.Dim() != n || !slices.Equal(texts(g), want) {
			t.Error(texts(g), want)
		}
		if g := must[Fed](t)(f.Plus()); !slices.Equal(texts(g), texts(f)) || g.Dim() != n {
			t.Error(texts(g))
		}
		if g := must[Fed](t)(union(t, n).Plus(b...)); !slices.Equal(texts(g), texts(union(t, n, b...))) || g.Dim() != n {
			t.Error(texts(g))
		}
		other := universe(t, (n+1)%(api.MaxClocks+1))
		for _, x := range []struct {
			l    []*dbm.Zone
			want api.Errno
		}{
			{[]*dbm.Zone{nil}, api.ErrNil}, {[]*dbm.Zone{b[0], nil}, api.ErrNil}, {[]*dbm.Zone{other, nil}, api.ErrNil},
			{[]*dbm.Zone{other}, api.ErrDim}, {[]*dbm.Zone{b[0], none, other}, api.ErrDim}, {[]*dbm.Zone{empty(t, other.Dim())}, api.ErrDim},
		} {
			for _, f := range []*Fed{f, union(t, n)} {
				if g, err := f.Plus(x.l...); g != nil || err != x.want {
					t.Error(n, g, err, x.want)
				}
			}
		}
	}
}

// minusAs holds Minus against the words of the chapter.
func minusAs(t *testing.T, l []*dbm.Zone, y *dbm.Zone) (*Fed, api.Errno) {
	t.Helper()
	f := union(t, y.Dim(), l...)
	want, wantErr := without(f.Zones(), y)
	g, err := f.Minus(y)
	if err != wantErr || (g == nil) != (err != api.OK) || !slices.Equal(texts(g), want) {
		t.Fatal(texts(f), "without", y.Print(), "is", texts(g), err, "not", want, wantErr)
	}
	if err == api.OK && g.Dim() != y.Dim() {
		t.Fatal(g.Dim())
	}
	return g, err
}

// TestP7_2Minus: what is left, against another way by the same words.
func TestP7_2Minus(t *testing.T) {
	parts := 0
	for n := 0; n <= api.MaxClocks; n++ {
		s := newSource(uint64(300 + n))
		for k := range 60 {
			top := 1 + k%4
			l, y := s.zones(t, n, k%4, top), s.zone(t, n, top)
			if k%9 == 0 {
				y = empty(t, n)
			}
			g, _ := minusAs(t, l, y)
			parts += len(g.Zones())
			g, _ = minusAs(t, g.Zones(), s.zone(t, n, top))
			parts += len(g.Zones())
		}
	}
	if parts < 1000 {
		t.Error("few", parts)
	}
}

// TestP7_2MinusGreat: bounds at the ends of what may be: ErrBound, where a part can't be held.
func TestP7_2MinusGreat(t *testing.T) {
	beyond, fine := 0, 0
	for n := 1; n <= api.MaxClocks; n++ {
		s := newSource(uint64(400 + n))
		for range 300 {
			if _, err := minusAs(t, []*dbm.Zone{s.great(n), s.great(n)}, s.great(n)); err == api.ErrBound {
				beyond++
			} else {
				fine++
			}
		}
	}
	if beyond < 300 || fine < 300 {
		t.Error("all of one kind", beyond, fine)
	}
}

// TestP7_2MinusCases: the example, and edges.
func TestP7_2MinusCases(t *testing.T) {
	ten, mid := parse(t, "1: x1-x0<=10"), parse(t, "1: x0-x1<=-3 x1-x0<=5")
	low, high := parse(t, "1: x1-x0<3"), parse(t, "1: x0-x1<-5 x1-x0<=10")
	all, none := universe(t, 1), empty(t, 1)
	for _, x := range []struct {
		l    []*dbm.Zone
		y    *dbm.Zone
		want []*dbm.Zone
	}{
		{[]*dbm.Zone{ten}, mid, []*dbm.Zone{low, high}},
		{[]*dbm.Zone{ten, mid, ten}, mid, []*dbm.Zone{low, high, low, high}},
		{[]*dbm.Zone{mid}, ten, nil}, {[]*dbm.Zone{mid}, mid, nil}, {[]*dbm.Zone{mid, low, high}, all, nil},
		{[]*dbm.Zone{low, high}, mid, []*dbm.Zone{low, high}},
		{[]*dbm.Zone{low, ten}, none, []*dbm.Zone{low, ten}},
		{nil, mid, nil}, {nil, none, nil},
	} {
		g := must[Fed](t)(union(t, 1, x.l...).Minus(x.y))
		if !slices.Equal(texts(g), texts(union(t, 1, x.want...))) || g.Empty() != (len(x.want) == 0) {
			t.Error(texts(g))
		}
	}
	// Without clocks there is one valuation.
	point := universe(t, 0)
	if g := must[Fed](t)(union(t, 0, point, point).Minus(point)); !g.Empty() || g.Dim() != 0 {
		t.Error(texts(g))
	}
	if g := must[Fed](t)(union(t, 0, point, point).Minus(empty(t, 0))); len(g.Zones()) != 2 {
		t.Error(texts(g))
	}
}

// TestP7_2MinusOrder: row by row, each cell against the zone as it is by then.
func TestP7_2MinusOrder(t *testing.T) {
	square := parse(t, "2: x1-x0<=4 x2-x0<=4")
	for _, x := range []struct {
		y    string
		want []string
	}{
		// Rows 0, 1, 2: the part on the left, that below, that on the right, that above.
		{"2: x0-x1<=-1 x0-x2<=-1 x1-x0<=3 x2-x0<=3", []string{
			"2: x1-x0<1 x2-x0<=4", "2: x0-x1<=-1 x1-x0<=4 x2-x0<1", "2: x0-x1<-3 x0-x2<=-1 x1-x0<=4 x2-x0<=4", "2: x0-x1<=-1 x0-x2<-3 x1-x0<=3 x2-x0<=4"}},
		// Once the clock 1 is at most 0, the cell (1, 2) of the zone is as strict as that of the other one.
		{"2: x1-x0<=0", []string{"2: x0-x1<0 x1-x0<=4 x2-x0<=4"}},
	} {
		g := must[Fed](t)(union(t, 2, square).Minus(parse(t, x.y)))
		var want []string
		for _, s := range x.want {
			want = append(want, parse(t, s).Print())
		}
		if !slices.Equal(texts(g), want) {
			t.Error(texts(g), want)
		}
	}
}

// TestP7_2Errors: nil, other numbers of clocks.
func TestP7_2Errors(t *testing.T) {
	for n := 0; n <= api.MaxClocks; n++ {
		for _, f := range []*Fed{nil, union(t, n), union(t, n, universe(t, n))} {
			check := func(z *dbm.Zone, want api.Errno) {
				t.Helper()
				if g, err := f.Minus(z); g != nil || err != want {
					t.Error("Minus", n, z.Print(), g, err)
				}
				if g, err := f.Meet(z); g != nil || err != want {
					t.Error("Meet", n, z.Print(), g, err)
				}
			}
			check(nil, api.ErrNil)
			for m := 0; m <= api.MaxClocks; m++ {
				if f == nil {
					check(universe(t, m), api.ErrNil)
				} else if m != n {
					check(universe(t, m), api.ErrDim)
					check(empty(t, m), api.ErrDim)
				}
			}
		}
	}
}

// far is a zone z and a zone y: of the first part of z without y no zone can be made. thin: of the first part one can, but not of what is inside y by then.
func far(t *testing.T) (z, y *dbm.Zone) {
	t.Helper()
	one := api.Limit{J: 1, Bound: atMost(-1)}
	z = must[dbm.Zone](t)(dbm.Limits(2, one, api.Limit{I: 1, J: 2, Bound: atMost(-5)}))
	return z, must[dbm.Zone](t)(dbm.Limits(2, one, api.Limit{I: 1, Bound: most}))
}

func thin(t *testing.T) (z, y *dbm.Zone) {
	t.Helper()
	one := api.Limit{J: 1, Bound: atMost(-1)}
	z = must[dbm.Zone](t)(dbm.Limits(2, one, api.Limit{I: 2, J: 1, Bound: most}))
	return z, must[dbm.Zone](t)(dbm.Limits(2, one, api.Limit{I: 1, Bound: atMost(5)}))
}

func TestP7_2MinusBound(t *testing.T) {
	for _, pair := range []func(*testing.T) (z, y *dbm.Zone){far, thin} {
		z, y := pair(t)
		for _, l := range [][]*dbm.Zone{{z}, {y, z}, {z, y}, {universe(t, 2), z}} {
			if g, err := minusAs(t, l, y); g != nil || err != api.ErrBound {
				t.Error(texts(g), err)
			}
		}
		// Where nothing is in common, nothing is made.
		if g, err := minusAs(t, []*dbm.Zone{z}, empty(t, 2)); err != api.OK || len(g.Zones()) != 1 {
			t.Error(texts(g), err)
		}
		if g, err := minusAs(t, []*dbm.Zone{z}, universe(t, 2)); err != api.OK || !g.Empty() {
			t.Error(texts(g), err)
		}
	}
}

// TestP7_2MinusFull: MaxFed parts may be left; one more may not.
func TestP7_2MinusFull(t *testing.T) {
	l := points(t, api.MaxFed+2)
	wide := must[dbm.Zone](t)(dbm.Limits(1, api.Limit{J: 1, Bound: lessThan(-api.MaxFed)}, api.Limit{I: 1, Bound: lessThan(api.MaxFed + 2)}))
	hole := l[api.MaxFed+1]
	for _, x := range []struct {
		l    []*dbm.Zone
		want api.Errno
		long int
	}{
		{slices.Concat(l[:api.MaxFed-2], []*dbm.Zone{wide}), api.OK, api.MaxFed},
		{slices.Concat([]*dbm.Zone{wide}, l[:api.MaxFed-2]), api.OK, api.MaxFed},
		{slices.Concat(l[:api.MaxFed-1], []*dbm.Zone{wide}), api.ErrFull, 0},
		{slices.Concat([]*dbm.Zone{wide}, l[:api.MaxFed-1]), api.ErrFull, 0},
		{slices.Concat([]*dbm.Zone{wide, hole}, l[:api.MaxFed-2]), api.OK, api.MaxFed},
		{l[:api.MaxFed], api.OK, api.MaxFed},
	} {
		f := union(t, 1, x.l...)
		g, err := f.Minus(hole)
		if err != x.want || len(g.Zones()) != x.long {
			t.Error(len(g.Zones()), err, x.want, x.long)
		}
		if want, wantErr := without(f.Zones(), hole); wantErr != err || !slices.Equal(want, texts(g)) {
			t.Error(wantErr, len(want))
		}
	}
}

// TestP7_2MinusFirst: of ErrBound and ErrFull the one that comes up first.
func TestP7_2MinusFirst(t *testing.T) {
	// Of two the parts on both sides are left; rest is not in y: it is left as it is.
	two := must[dbm.Zone](t)(dbm.Limits(2, api.Limit{I: 2, Bound: atMost(3)}))
	rest := must[dbm.Zone](t)(dbm.Limits(2, api.Limit{J: 1, Bound: lessThan(-api.MaxBound)}))
	for _, x := range []struct {
		pair func(*testing.T) (z, y *dbm.Zone)
		full api.Errno // if MaxFed parts are there ahead of the zone
	}{{far, api.ErrBound}, {thin, api.ErrFull}} {
		z, y := x.pair(t)
		if g, err := union(t, 2, two, rest).Minus(y); err != api.OK || len(g.Zones()) != 3 {
			t.Fatal(texts(g), err)
		}
		many := slices.Repeat([]*dbm.Zone{rest}, api.MaxFed)
		for _, c := range []struct {
			l    []*dbm.Zone
			want api.Errno
		}{
			{slices.Concat(many[2:], []*dbm.Zone{two, z}), x.full},
			{slices.Concat([]*dbm.Zone{two}, many[2:], []*dbm.Zone{z}), x.full},
			{slices.Concat(many[3:], []*dbm.Zone{two, two, z}), api.ErrFull},
			{slices.Concat([]*dbm.Zone{two, two}, many[3:], []*dbm.Zone{z}), api.ErrFull},
			{slices.Concat(many[1:], []*dbm.Zone{z}), api.ErrBound},
			{slices.Concat([]*dbm.Zone{z}, many[3:], []*dbm.Zone{two, two}), api.ErrBound},
			{slices.Concat([]*dbm.Zone{two, two, z}, many[3:]), api.ErrBound},
		} {
			if g, err := union(t, 2, c.l...).Minus(y); g != nil || err != c.want {
				t.Error(len(g.Zones()), err, c.want)
			}
			if _, err := without(c.l, y); err != c.want {
				t.Error("by the words", err, c.want)
			}
		}
	}
}

// TestP7_2Meet: what each zone has in common with another one, as far as that is something.
func TestP7_2Meet(t *testing.T) {
	check := func(l []*dbm.Zone, y *dbm.Zone) (kept int, err api.Errno) {
		var want []string
		wantErr := api.OK
		for _, z := range l {
			if g, some := common(z, y); some {
				want = append(want, g.text())
				if !g.mayBe() {
					wantErr = api.ErrBound
				}
			}
		}
		if wantErr != api.OK {
			want = nil
		}
		g, err := union(t, y.Dim(), l...).Meet(y)
		if err != wantErr || (g == nil) != (err != api.OK) || !slices.Equal(texts(g), want) || err == api.OK && g.Dim() != y.Dim() {
			t.Fatal(texts(union(t, y.Dim(), l...)), y.Print(), texts(g), err, want, wantErr)
		}
		return len(want), err
	}
	kept, beyond := 0, 0
	for n := 0; n <= api.MaxClocks; n++ {
		s := newSource(uint64(500 + n))
		for k := range 60 {
			many, _ := check(s.zones(t, n, k%5, 1+k%4), s.zone(t, n, 1+k%4))
			kept += many
			check(s.zones(t, n, k%5, 3), empty(t, n))
			if _, err := check([]*dbm.Zone{s.great(n), s.zone(t, n, 3), s.great(n)}, s.great(n)); err != api.OK {
				beyond++
			}
		}
	}
	if kept < 300 || beyond < 50 {
		t.Error("few", kept, beyond)
	}
	z, y := thin(t)
	if g, err := union(t, 2, universe(t, 2), z).Meet(y); g != nil || err != api.ErrBound {
		t.Error(texts(g), err)
	}
	whole := union(t, 1, points(t, api.MaxFed)...)
	if g := must[Fed](t)(whole.Meet(universe(t, 1))); len(g.Zones()) != api.MaxFed {
		t.Error(len(g.Zones()))
	}
	if g := must[Fed](t)(whole.Meet(parse(t, "1: x0-x1<=-3 x1-x0<=5"))); len(g.Zones()) != 3 {
		t.Error(texts(g))
	}
}

// TestP7_3Includes: by the zones that are taken out one behind the other.
func TestP7_3Includes(t *testing.T) {
	yes, no := 0, 0
	check := func(l []*dbm.Zone, z *dbm.Zone) bool {
		rest, err := []*dbm.Zone{z}, api.OK
		if z.Empty() {
			rest = nil
		}
		for _, y := range l {
			var left []string
			if left, err = without(rest, y); err != api.OK {
				break
			}
			rest = parseAll(t, left...)
		}
		want := err == api.OK && len(rest) == 0
		if got := union(t, z.Dim(), l...).Includes(z); got != want {
			t.Fatal(texts(union(t, z.Dim(), l...)), z.Print(), got, err)
		}
		return want
	}
	for n := 0; n <= 4; n++ {
		s := newSource(uint64(600 + n))
		for k := range 60 {
			z := s.zone(t, n, 2)
			l := append(s.zones(t, n, k%4, 2), union(t, n, z).Zones()...)
			for _, l := range [][]*dbm.Zone{l, l[:len(l)-1], must[Fed](t)(union(t, n, z).Minus(s.zone(t, n, 2))).Zones()} {
				if check(l, z) {
					yes++
				} else {
					no++
				}
				check(l, s.zone(t, n, 2))
				check(l, empty(t, n))
			}
			check([]*dbm.Zone{s.great(n), s.great(n)}, s.great(n))
		}
	}
	if yes < 50 || no < 50 {
		t.Error("few", yes, no)
	}
}

// TestP7_3IncludesCases: the examples, edges, and wrong inputs.
func TestP7_3IncludesCases(t *testing.T) {
	span := func(s string) *dbm.Zone { return parse(t, s) }
	holed := must[Fed](t)(union(t, 1, span("1: x1-x0<=10")).Minus(span("1: x0-x1<=-3 x1-x0<=5")))
	two := union(t, 1, span("1: x1-x0<=3"), span("1: x0-x1<=-2 x1-x0<=10"))
	open := union(t, 1, span("1: x1-x0<3"), span("1: x0-x1<-3"))
	for _, x := range []struct {
		f    *Fed
		z    *dbm.Zone
		want bool
	}{
		{holed, span("1: x0-x1<=-6 x1-x0<=7"), true}, {holed, span("1: x0-x1<=-5 x1-x0<=6"), false}, {holed, span("1: x0-x1<-5 x1-x0<=6"), true}, {holed, span("1: x1-x0<3"), true}, {holed, span("1: x1-x0<=3"), false}, {holed, span("1: x1-x0<=10"), false},
		{two, span("1: x0-x1<=-1 x1-x0<=9"), true}, {two, span("1: x1-x0<=10"), true}, {two, span("1: x1-x0<11"), false}, {two, universe(t, 1), false}, {two, empty(t, 1), true},
		{open, universe(t, 1), false}, {open, span("1: x0-x1<=-3 x1-x0<=3"), false}, {open, span("1: x0-x1<-3"), true},
		{union(t, 1), empty(t, 1), true}, {union(t, 1), span("1: x1-x0<=0"), false}, {union(t, 0, universe(t, 0)), universe(t, 0), true}, {union(t, 0), universe(t, 0), false}, {union(t, 0), empty(t, 0), true},
		{two, nil, false}, {nil, nil, false}, {nil, universe(t, 0), false}, {nil, empty(t, 0), false}, {union(t, 0), nil, false},
		{two, universe(t, 0), false}, {two, empty(t, 0), false}, {two, empty(t, 2), false}, {union(t, 1), empty(t, 2), false},
	} {
		if x.f.Includes(x.z) != x.want {
			t.Error(texts(x.f), x.z.Print(), x.want)
		}
	}
	// All of z is in the union, but not by zones that can be held, unless the one that includes all of it comes first.
	z, y := thin(t)
	all := universe(t, 2)
	if union(t, 2, y, all).Includes(z) || !union(t, 2, all, y).Includes(z) {
		t.Error("thin")
	}
	z, y = far(t)
	if union(t, 2, y, all).Includes(z) || !union(t, 2, all, y).Includes(z) || union(t, 2, y).Includes(z) {
		t.Error("far")
	}
}

// TestP7_3Same: each includes all zones of the other one.
func TestP7_3Same(t *testing.T) {
	whole := union(t, 1, parse(t, "1: x1-x0<=10"))
	two := union(t, 1, parse(t, "1: x1-x0<=3"), parse(t, "1: x0-x1<=-2 x1-x0<=10"))
	more := union(t, 1, parse(t, "1: x1-x0<=3"), parse(t, "1: x0-x1<=-2 x1-x0<=11"))
	hole := union(t, 1, parse(t, "1: x1-x0<3"), parse(t, "1: x0-x1<-3 x1-x0<=10"))
	for _, x := range []struct {
		f, g *Fed
		want bool
	}{
		{whole, two, true}, {whole, whole, true}, {two, two, true}, {whole, more, false}, {two, more, false}, {whole, hole, false}, {hole, hole, true},
		{whole, union(t, 1), false}, {union(t, 1), union(t, 1), true}, {union(t, 1), union(t, 1, empty(t, 1)), true},
		{union(t, 1, universe(t, 1)), union(t, 2, universe(t, 2)), false}, {union(t, 1), union(t, 2, universe(t, 2)), false}, {union(t, 0, universe(t, 0)), union(t, 0, universe(t, 0), universe(t, 0)), true}, {union(t, 0), union(t, 0, universe(t, 0)), false},
		// Neither has a zone that the other one could lack.
		{union(t, 1), union(t, 2), true},
		{nil, nil, false}, {nil, whole, false}, {nil, union(t, 0), false}, {nil, union(t, 1), false},
	} {
		if x.f.Same(x.g) != x.want || x.g.Same(x.f) != x.want {
			t.Error(texts(x.f), texts(x.g), x.want)
		}
	}
	z, y := thin(t)
	if f := union(t, 2, y, z); f.Same(f) {
		t.Error("Minus has an error on the way")
	}
	for n := 0; n <= 3; n++ {
		s := newSource(uint64(700 + n))
		for range 40 {
			f, g := union(t, n, s.zones(t, n, 3, 1)...), union(t, n, s.zones(t, n, 3, 1)...)
			want := true
			for _, z := range f.Zones() {
				want = want && g.Includes(z)
			}
			for _, z := range g.Zones() {
				want = want && f.Includes(z)
			}
			if f.Same(g) != want {
				t.Error(texts(f), texts(g), want)
			}
		}
	}
}

// TestP7_3Fewer: without those that another one includes; of like ones the first stays.
func TestP7_3Fewer(t *testing.T) {
	a, b, c := parse(t, "1: x1-x0<=3"), parse(t, "1: x0-x1<=-1 x1-x0<=2"), parse(t, "1: x0-x1<=-2")
	like := parse(t, "1: x1-x0<=3")
	for _, x := range []struct{ l, want []*dbm.Zone }{
		{nil, nil}, {[]*dbm.Zone{a}, []*dbm.Zone{a}},
		{[]*dbm.Zone{a, b, c}, []*dbm.Zone{a, c}}, {[]*dbm.Zone{b, a, c}, []*dbm.Zone{a, c}}, {[]*dbm.Zone{c, b, a}, []*dbm.Zone{c, a}},
		{[]*dbm.Zone{b, b, b}, []*dbm.Zone{b}}, {[]*dbm.Zone{b, a, b, a, c, a, b}, []*dbm.Zone{a, c}},
		{[]*dbm.Zone{a, like}, []*dbm.Zone{a}}, {[]*dbm.Zone{like, c, a}, []*dbm.Zone{like, c}},
		// Both together include it, but neither of them alone.
		{[]*dbm.Zone{parse(t, "1: x0-x1<=-1 x1-x0<=5"), a, c}, []*dbm.Zone{parse(t, "1: x0-x1<=-1 x1-x0<=5"), a, c}},
		{[]*dbm.Zone{b, universe(t, 1), a, c}, []*dbm.Zone{universe(t, 1)}},
	} {
		if g := union(t, 1, x.l...).Fewer(); !slices.Equal(texts(g), texts(union(t, 1, x.want...))) || g.Dim() != 1 {
			t.Error(texts(union(t, 1, x.l...)), texts(g))
		}
	}
	// The first of like ones: the very zone.
	if f := union(t, 1, a, like); f.Fewer().Zones()[0] != f.Zones()[0] {
		t.Error("not the first")
	}
	dropped := 0
	for n := 0; n <= api.MaxClocks; n++ {
		s := newSource(uint64(800 + n))
		for k := range 30 {
			f := union(t, n, s.zones(t, n, k%8, 1)...)
			for _, z := range f.Zones()[:k%8/3] {
				f = must[Fed](t)(f.Plus(z))
			}
			var want []string
			for at, z := range f.Zones() {
				covered := false
				for other, o := range f.Zones() {
					alike := z.Print() == o.Print()
					covered = covered || other != at && o.Includes(z) && (!alike || other < at)
				}
				if !covered {
					want = append(want, z.Print())
				}
			}
			if g := f.Fewer(); !slices.Equal(texts(g), want) || g.Dim() != n {
				t.Error(texts(f), texts(g), want)
			}
			dropped += len(f.Zones()) - len(want)
		}
	}
	if dropped < 50 {
		t.Error("few", dropped)
	}
	if g := union(t, 1, points(t, api.MaxFed)...).Fewer(); len(g.Zones()) != api.MaxFed {
		t.Error(len(g.Zones()))
	}
}

// TestP7_4Valuations: each call has just the valuations that its words say.
func TestP7_4Valuations(t *testing.T) {
	for n := 0; n <= api.MaxClocks; n++ {
		s := newSource(uint64(900 + n))
		for k := range 40 {
			top := 1 + k%3
			f, z := union(t, n, s.zones(t, n, k%4, top)...), s.zone(t, n, top)
			more := s.zones(t, n, 2, top)
			plus := must[Fed](t)(f.Plus(more...))
			minus, meet := must[Fed](t)(f.Minus(z)), must[Fed](t)(f.Meet(z))
			list := s.near(n, 60, top+2)
			if n <= 1 {
				list = grid(n, 8)
			}
			for _, p := range list {
				v := p.valuation()
				in, inZ := p.inOne(f.Zones()), p.in(z)
				if plus.Has(v) != (in || p.inOne(more)) || minus.Has(v) != (in && !inZ) || meet.Has(v) != (in && inZ) || f.Fewer().Has(v) != in {
					t.Fatal(texts(f), z.Print(), v)
				}
			}
		}
	}
}

// TestP7_5Apart: the parts that Minus makes of one zone have no valuation in common.
func TestP7_5Apart(t *testing.T) {
	pairs := 0
	for n := 1; n <= api.MaxClocks; n++ {
		s := newSource(uint64(1000 + n))
		for k := range 40 {
			parts := must[Fed](t)(union(t, n, s.zone(t, n, 1+k%3)).Minus(s.zone(t, n, 1+k%3))).Zones()
			for i, a := range parts {
				for _, b := range parts[:i] {
					if _, some := common(a, b); some || a.Meets(b) {
						t.Fatal(a.Print(), b.Print())
					}
					pairs++
				}
			}
		}
	}
	if pairs < 1000 {
		t.Error("few", pairs)
	}
}

// TestP7_6Back: a union without z, and with z again, includes what it was; without all that it includes it is empty.
func TestP7_6Back(t *testing.T) {
	for n := 0; n <= 5; n++ {
		s := newSource(uint64(1100 + n))
		for k := range 30 {
			f, z := union(t, n, s.zones(t, n, k%4, 2)...), s.zone(t, n, 2)
			back := must[Fed](t)(must[Fed](t)(f.Minus(z)).Plus(z))
			for _, was := range f.Zones() {
				if !back.Includes(was) {
					t.Fatal(texts(f), z.Print(), was.Print())
				}
			}
			rest := f
			for _, y := range f.Zones() {
				rest = must[Fed](t)(rest.Minus(y))
			}
			if !rest.Empty() || !f.Same(f) {
				t.Fatal(texts(f), texts(rest))
			}
		}
	}
}

// TestP7_7Includes: Includes holds just if each valuation of z is in the union: of few clocks and small numbers a grid has one that is not, if there is one.
func TestP7_7Includes(t *testing.T) {
	yes, no := 0, 0
	for n := 0; n <= 2; n++ {
		s := newSource(uint64(1200 + n))
		all := grid(n, 12)
		for k := range 120 {
			z := s.zone(t, n, 1+k%2)
			l := s.zones(t, n, k%5, 1+k%2)
			if k%3 == 0 {
				l = append(l, must[Fed](t)(union(t, n, z).Minus(s.zone(t, n, 1))).Zones()...)
			}
			want := true
			for _, p := range all {
				want = want && (!p.in(z) || p.inOne(l))
			}
			if union(t, n, l...).Includes(z) != want {
				t.Fatal(texts(union(t, n, l...)), z.Print(), want)
			}
			if want {
				yes++
			} else {
				no++
			}
		}
	}
	if yes < 30 || no < 30 {
		t.Error("few", yes, no)
	}
}

// TestP1Nil: a nil union answers zero values, none, no, and ErrNil.
func TestP1Nil(t *testing.T) {
	var f *Fed
	if f.Dim() != 0 || f.Zones() != nil || f.Empty() || f.Has(nil) || f.Has([]api.Rat{{Num: 0, Den: 1}}) || f.Includes(nil) || f.Includes(universe(t, 0)) || f.Same(nil) || f.Same(union(t, 0)) || f.Fewer() != nil {
		t.Error("nil")
	}
	for _, l := range [][]*dbm.Zone{nil, {nil}, {universe(t, 0)}, {universe(t, 1)}, {empty(t, 0)}} {
		if g, err := f.Plus(l...); g != nil || err != api.ErrNil {
			t.Error(g, err)
		}
	}
	for _, z := range []*dbm.Zone{nil, universe(t, 0), universe(t, 1), empty(t, 0)} {
		if g, err := f.Minus(z); g != nil || err != api.ErrNil {
			t.Error(g, err)
		}
		if g, err := f.Meet(z); g != nil || err != api.ErrNil {
			t.Error(g, err)
		}
	}
}

// TestP3StaysAsItIs: what is handed in stays as it is, spare room too; what is answered is the caller's.
func TestP3StaysAsItIs(t *testing.T) {
	a, b, c := parse(t, "1: x1-x0<=3"), parse(t, "1: x0-x1<=-2 x1-x0<=4"), parse(t, "1: x0-x1<=-9")
	none := empty(t, 1)
	room := []*dbm.Zone{a, none, b, c, c}
	before := slices.Clone(room)
	f := union(t, 1, room[:3]...)
	g := must[Fed](t)(f.Plus(room[2:4]...))
	h := must[Fed](t)(f.Plus(c))
	if !slices.Equal(room, before) {
		t.Error("changed what was handed in")
	}
	want := texts(f)
	room[0], room[2] = c, c
	f.Zones()[0] = nil
	_ = append(f.Zones(), c)
	if !slices.Equal(texts(f), want) || !slices.Equal(texts(g), append(slices.Clone(want), texts(union(t, 1, b, c))...)) {
		t.Error("the list that was handed in is kept", texts(f), texts(g))
	}
	// What becomes of one union changes nothing of another one.
	k := must[Fed](t)(f.Plus(a))
	if !slices.Equal(texts(h), append(slices.Clone(want), c.Print())) || !slices.Equal(texts(k), append(slices.Clone(want), a.Print())) || !slices.Equal(texts(f), want) {
		t.Error(texts(h), texts(k))
	}
	for _, made := range []*Fed{must[Fed](t)(f.Minus(none)), must[Fed](t)(f.Meet(universe(t, 1))), f.Fewer(), must[Fed](t)(f.Plus())} {
		l := made.Zones()
		for i := range l {
			l[i] = nil
		}
		if !slices.Equal(texts(made), want) || !slices.Equal(texts(f), want) {
			t.Error(texts(made), texts(f))
		}
	}
	f.Includes(c)
	f.Same(g)
	if a.Print() != "1: x1-x0<=3" || !slices.Equal(texts(f), want) {
		t.Error("changed", a.Print(), texts(f))
	}
	v := []api.Rat{{Num: 1, Den: 2}, {Num: 7, Den: 1}}
	f.Has(v[:1])
	if !slices.Equal(v, []api.Rat{{Num: 1, Den: 2}, {Num: 7, Den: 1}}) {
		t.Error(v)
	}
}
