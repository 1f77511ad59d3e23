package reduce

import (
	"bytes"
	"fmt"
	"math"
	"math/rand/v2"
	"slices"
	"strings"
	"testing"

	"gnomon/api"
	"gnomon/dbm"
)

// TestP25Examples: those of the chapter.
func TestP25Examples(t *testing.T) {
	z := must(t)(dbm.Zero(2))
	if l, err := Classes(z); err != api.OK || fmt.Sprint(l) != "[[0 1 2]]" {
		t.Error(l, err)
	}
	if l, err := Few(z); err != api.OK || !slices.Equal(l, []api.Limit{{I: 1, J: 2, Bound: atMost(0)}, {I: 2, Bound: atMost(0)}}) {
		t.Error(l, err)
	}
	if l, err := Few(must(t)(dbm.Universe(2))); err != api.OK || len(l) != 0 {
		t.Error(l, err)
	}
	y := must(t)(dbm.Limits(2, api.Limit{I: 1, Bound: atMost(5)}, api.Limit{I: 2, J: 1, Bound: atMost(1)}))
	if l, err := Few(y); err != api.OK || !slices.Equal(l, []api.Limit{{I: 1, Bound: atMost(5)}, {I: 2, J: 1, Bound: atMost(1)}}) {
		t.Error(l, err)
	}
}

// TestP25_1Few: the classes and the few bounds of zones, in their order.
func TestP25_1Few(t *testing.T) {
	for _, w := range []struct {
		n                  int
		zone, classes, few string
	}{
		// Without clocks, and with one.
		{0, "", "[[0]]", ""}, {1, "", "[[0] [1]]", ""}, {1, "x1-x0<=5", "[[0] [1]]", "x1-x0<=5"}, {1, "x0-x1<=-1 x1-x0<3", "[[0] [1]]", "x0-x1<=-1 x1-x0<3"}, {1, "x1-x0<=0", "[[0 1]]", "x1-x0<=0"}, {1, "x1-x0<=3 x0-x1<=-3", "[[0 1]]", "x0-x1<=-3 x1-x0<=3"},
		// Above 0 is more than what holds anyway; and nearly settled is not settled.
		{1, "x0-x1<0", "[[0] [1]]", "x0-x1<0"}, {1, "x0-x1<0 x1-x0<1", "[[0] [1]]", "x0-x1<0 x1-x0<1"}, {1, "x0-x1<=0 x1-x0<1", "[[0] [1]]", "x1-x0<1"}, {1, "x0-x1<=-3 x1-x0<4", "[[0] [1]]", "x0-x1<=-3 x1-x0<4"},
		// Clocks that are 0 ahead of, between and behind others in the class of 0.
		{2, "x1-x0<=0 x2-x0<=0", "[[0 1 2]]", "x1-x2<=0 x2-x0<=0"}, {2, "x1-x0<=0 x2-x0<=3 x0-x2<=-3", "[[0 1 2]]", "x1-x2<=-3 x2-x0<=3"}, {2, "x1-x0<=3 x0-x1<=-3 x2-x0<=0", "[[0 1 2]]", "x2-x1<=-3 x1-x0<=3"}, {2, "x1-x0<=3 x0-x1<=-3 x2-x0<=5 x0-x2<=-5", "[[0 1 2]]", "x0-x1<=-3 x1-x2<=-2 x2-x0<=5"}, {2, "x1-x0<=5 x0-x1<=-5 x2-x0<=3 x0-x2<=-3", "[[0 1 2]]", "x0-x1<=-5 x1-x2<=2 x2-x0<=3"},
		{3, "x1-x0<=3 x0-x1<=-3 x2-x0<=0 x3-x0<=1 x0-x3<=-1", "[[0 1 2 3]]", "x2-x1<=-3 x1-x3<=2 x3-x0<=1"}, {3, "x1-x0<=3 x0-x1<=-3 x3-x0<=0 x2-x0<=1 x0-x2<=-1", "[[0 1 2 3]]", "x3-x1<=-3 x1-x2<=2 x2-x0<=1"}, {4, "x1-x0<=0 x2-x0<=3 x0-x2<=-3 x3-x0<=0 x4-x0<=1 x0-x4<=-1", "[[0 1 2 3 4]]", "x1-x3<=0 x3-x2<=-3 x2-x4<=2 x4-x0<=1"}, {4, "x2-x0<=0 x1-x0<=3 x0-x1<=-3 x4-x0<=0 x3-x0<=1 x0-x3<=-1", "[[0 1 2 3 4]]", "x2-x4<=0 x4-x1<=-3 x1-x3<=2 x3-x0<=1"},
		// Some hang together with 0, others do not.
		{2, "x2-x0<=0", "[[0 2] [1]]", "x2-x0<=0"}, {2, "x2-x0<=4 x0-x2<=-4", "[[0 2] [1]]", "x0-x2<=-4 x2-x0<=4"}, {3, "x2-x0<=4 x0-x2<=-4 x1-x2<1 x3-x1<=2", "[[0 2] [1] [3]]", "x0-x2<=-4 x2-x0<=4 x1-x0<5 x3-x1<=2"},
		// Two, several, all hang together without 0; what holds anyway by the head, and by another clock of the class.
		{2, "x1-x2<=0 x2-x1<=0", "[[0] [1 2]]", "x1-x2<=0 x2-x1<=0"}, {2, "x2-x1<=3 x1-x2<=-3", "[[0] [1 2]]", "x1-x2<=-3 x2-x1<=3"}, {2, "x1-x2<=3 x2-x1<=-3", "[[0] [1 2]]", "x1-x2<=3 x2-x1<=-3"}, {2, "x1-x2<=3 x2-x1<=-3 x0-x2<=-1", "[[0] [1 2]]", "x1-x2<=3 x2-x1<=-3 x0-x1<=-4"}, {2, "x1-x2<=3 x2-x1<=-3 x0-x2<0", "[[0] [1 2]]", "x1-x2<=3 x2-x1<=-3 x0-x1<-3"}, {2, "x2-x1<=3 x1-x2<=-3 x0-x1<0", "[[0] [1 2]]", "x1-x2<=-3 x2-x1<=3 x0-x1<0"}, {2, "x1-x2<=0 x2-x1<=0 x2-x0<9", "[[0] [1 2]]", "x1-x2<=0 x2-x1<=0 x1-x0<9"},
		{3, "x1-x2<=0 x2-x1<=0 x3-x1<=0 x1-x3<=0", "[[0] [1 2 3]]", "x1-x2<=0 x2-x3<=0 x3-x1<=0"}, {3, "x1-x3<=2 x3-x1<=-2", "[[0] [1 3] [2]]", "x1-x3<=2 x3-x1<=-2"}, {3, "x2-x3<=2 x3-x2<=-2 x1-x2<=0", "[[0] [1] [2 3]]", "x2-x3<=2 x3-x2<=-2 x1-x2<=0"},
		// The class is the one of 2, whose head has 0 less it at most -2; a cell (0, j) stays out though the head's is finite.
		{3, "x2-x3<=2 x3-x2<=-2 x2-x1<=1", "[[0] [1] [2 3]]", "x2-x3<=2 x3-x2<=-2 x2-x1<=1"},
		// Several classes of two.
		{4, "x3-x0<=2 x0-x3<=-2 x4-x1<=1 x1-x4<=-1 x2-x1<=5", "[[0 3] [1 4] [2]]", "x0-x3<=-2 x3-x0<=2 x1-x4<=-1 x4-x1<=1 x2-x1<=5"}, {4, "x1-x3<=0 x3-x1<=0 x2-x4<=0 x4-x2<=0 x4-x3<=7 x1-x2<3 x3-x0<=50", "[[0] [1 3] [2 4]]", "x1-x3<=0 x3-x1<=0 x2-x4<=0 x4-x2<=0 x1-x0<=50 x1-x2<3 x2-x1<=7"},
		// Cells that are sums of two others, reached and not, and such as are stricter by that alone.
		{2, "x1-x0<=5 x2-x1<=1", "[[0] [1] [2]]", "x1-x0<=5 x2-x1<=1"}, {2, "x1-x0<=5 x2-x1<1", "[[0] [1] [2]]", "x1-x0<=5 x2-x1<1"}, {2, "x1-x0<5 x2-x1<1 x2-x0<6", "[[0] [1] [2]]", "x1-x0<5 x2-x1<1"}, {2, "x1-x0<=5 x2-x1<=1 x2-x0<=6", "[[0] [1] [2]]", "x1-x0<=5 x2-x1<=1"}, {2, "x1-x0<=5 x2-x1<=1 x2-x0<6", "[[0] [1] [2]]", "x1-x0<=5 x2-x0<6 x2-x1<=1"}, {2, "x1-x0<=5 x2-x1<=1 x2-x0<=5", "[[0] [1] [2]]", "x1-x0<=5 x2-x0<=5 x2-x1<=1"},
		{2, "x1-x0<=5 x0-x2<=-3", "[[0] [1] [2]]", "x0-x2<=-3 x1-x0<=5"}, {2, "x1-x0<=5 x0-x2<=-3 x1-x2<2", "[[0] [1] [2]]", "x0-x2<=-3 x1-x0<=5 x1-x2<2"}, {2, "x0-x2<=-5 x2-x1<=1", "[[0] [1] [2]]", "x0-x2<=-5 x2-x1<=1"}, {2, "x0-x2<=-5 x2-x1<=1 x0-x1<-4", "[[0] [1] [2]]", "x0-x1<-4 x0-x2<=-5 x2-x1<=1"}, {2, "x1-x0<=5", "[[0] [1] [2]]", "x1-x0<=5"}, {2, "x1-x0<=5 x1-x2<=5", "[[0] [1] [2]]", "x1-x0<=5"}, {2, "x1-x0<=5 x1-x2<5", "[[0] [1] [2]]", "x1-x0<=5 x1-x2<5"},
		// By i, then by j.
		{3, "x3-x2<=1 x3-x1<=1 x3-x0<=1 x2-x3<1 x2-x1<1 x2-x0<=1 x1-x3<1 x1-x2<1 x1-x0<=1 x0-x1<0 x0-x2<0 x0-x3<0", "[[0] [1] [2] [3]]", "x0-x1<0 x0-x2<0 x0-x3<0 x1-x0<=1 x2-x0<=1 x3-x0<=1"}, {3, "x3-x2<=2 x3-x1<=2 x2-x3<=2 x2-x1<=2 x1-x3<=2 x1-x2<=2", "[[0] [1] [2] [3]]", "x1-x2<=2 x1-x3<=2 x2-x1<=2 x2-x3<=2 x3-x1<=2 x3-x2<=2"},
		// At the ends of what may be: sums that may not be are above all cells, and settle nothing.
		{2, "x1-x0<=268435456 x2-x1<=268435456 x2-x0<=268435456", "[[0] [1] [2]]", "x1-x0<=268435456 x2-x0<=268435456"}, {2, "x1-x0<=268435456 x2-x1<=268435455 x2-x0<=268435456", "[[0] [1] [2]]", "x1-x0<=268435456 x2-x0<=268435456 x2-x1<=268435455"}, {2, "x1-x2<=268435456 x2-x1<=268435456", "[[0] [1] [2]]", "x1-x2<=268435456 x2-x1<=268435456"}, {1, "x1-x0<=268435456 x0-x1<=-268435456", "[[0 1]]", "x0-x1<=-268435456 x1-x0<=268435456"}, {1, "x0-x1<-268435456", "[[0] [1]]", "x0-x1<-268435456"}, {1, "x1-x0<268435456", "[[0] [1]]", "x1-x0<268435456"},
	} {
		z := made(t, w.n, w.zone)
		if l, err := Classes(z); err != api.OK || fmt.Sprint(l) != w.classes {
			t.Error(w.n, w.zone, l, err, "not", w.classes)
		}
		l, err := Few(z)
		if err != api.OK || text(l) != w.few {
			t.Error(w.n, w.zone, text(l), err, "not", w.few)
		}
		if b, err := Pack(z); err != api.OK || !bytes.Equal(b, wantBytes(w.n, limits(t, w.few))) {
			t.Error(w.n, w.zone, b, err)
		}
	}
}

// TestP25_1Ends: Universe, Zero, a point, and empty zones, of each number of clocks.
func TestP25_1Ends(t *testing.T) {
	for n := 0; n <= api.MaxClocks; n++ {
		var apart, all []string
		var zeros, point, fixed []api.Limit
		for i := 0; i <= n; i++ {
			apart, all = append(apart, fmt.Sprintf("[%d]", i)), append(all, fmt.Sprint(i))
			if i > 0 {
				zeros = append(zeros, api.Limit{I: i, J: (i + 1) % (n + 1), Bound: atMost(0)})
				fixed = append(fixed, api.Limit{I: i, Bound: atMost(i)}, api.Limit{J: i, Bound: atMost(-i)})
			}
			if n > 0 {
				next := (i + 1) % (n + 1)
				point = append(point, api.Limit{I: i, J: next, Bound: atMost(i - next)})
			}
		}
		one := "[[" + strings.Join(all, " ") + "]]"
		for _, w := range []struct {
			z       *dbm.Zone
			classes string
			few     []api.Limit
		}{
			{must(t)(dbm.Universe(n)), "[" + strings.Join(apart, " ") + "]", nil}, {must(t)(dbm.Zero(n)), one, zeros}, {must(t)(dbm.Limits(n, fixed...)), one, point},
		} {
			if l, err := Classes(w.z); err != api.OK || fmt.Sprint(l) != w.classes {
				t.Error(n, l, err)
			}
			if l, err := Few(w.z); err != api.OK || !slices.Equal(l, w.few) {
				t.Error(n, l, err)
			}
		}
		z := empty(t, n)
		if l, err := Classes(z); len(l) != 0 || err != api.ErrEmpty {
			t.Error(n, l, err)
		}
		if l, err := Few(z); err != api.OK || !slices.Equal(l, []api.Limit{{Bound: lessThan(0)}}) {
			t.Error(n, l, err)
		}
		if b, err := Pack(z); err != api.OK || !bytes.Equal(b, []byte{byte(n), 1, 0, 0x80, 0, 0, 0}) {
			t.Error(n, b, err)
		}
	}
}

// TestP25_1Nil: of nil there is nothing.
func TestP25_1Nil(t *testing.T) {
	if l, err := Few(nil); len(l) != 0 || err != api.ErrNil {
		t.Error(l, err)
	}
	if l, err := Classes(nil); len(l) != 0 || err != api.ErrNil {
		t.Error(l, err)
	}
	if b, err := Pack(nil); len(b) != 0 || err != api.ErrNil {
		t.Error(b, err)
	}
}

// TestP25_1Model: classes, few bounds and bytes, held against the words: of small zones all, of others at random.
func TestP25_1Model(t *testing.T) {
	kinds := map[string]int{}
	try := func(z *dbm.Zone) {
		few, err := Few(z)
		if want := wantFew(z); err != api.OK || !slices.Equal(few, want) {
			t.Fatal(z.Print(), text(few), err, "not", text(want))
		}
		if b, err := Pack(z); err != api.OK || !bytes.Equal(b, wantBytes(z.Dim(), few)) {
			t.Fatal(z.Print(), b, err)
		}
		l, err := Classes(z)
		if z.Empty() {
			if kinds["empty"]++; len(l) != 0 || err != api.ErrEmpty {
				t.Fatal(z.Print(), l, err)
			}
			return
		}
		if want := wantClasses(z); err != api.OK || fmt.Sprint(l) != fmt.Sprint(want) {
			t.Fatal(z.Print(), l, err, want)
		}
		switch {
		case len(l) == 1 && z.Dim() > 1:
			kinds["all"]++
		case len(l) == z.Dim()+1:
			kinds["none"]++
		case len(l[0]) > 1:
			kinds["with 0"]++
		default:
			kinds["without 0"]++
		}
		if len(few) < len(finite(z)) {
			kinds["fewer"]++
		}
	}
	eachSmall(t, try)
	eachZone(t, 1, api.MaxClocks, 20000, func(r *rand.Rand, z *dbm.Zone) { try(z) })
	for kind, least := range map[string]int{"empty": 2, "all": 300, "none": 1000, "with 0": 1000, "without 0": 1000, "fewer": 3000} {
		if kinds[kind] < least {
			t.Error(kind, kinds)
		}
	}
}

// TestP25_1Back: what dbm.Limits says, whatever is handed in.
func TestP25_1Back(t *testing.T) {
	long := limits(t, "x1-x0<=268435456 x2-x1<=268435456")
	for _, w := range []struct {
		n    int
		l    []api.Limit
		err  api.Errno
		text string
	}{
		{0, nil, api.OK, "0:"}, {2, nil, api.OK, "2:"}, {2, []api.Limit{}, api.OK, "2:"}, {8, nil, api.OK, "8:"}, {-1, nil, api.ErrClock, ""}, {9, nil, api.ErrClock, ""}, {math.MaxInt, long, api.ErrClock, ""}, {math.MinInt, []api.Limit{{I: 9}}, api.ErrClock, ""},
		{2, limits(t, "x1-x0<=5 x2-x1<=1"), api.OK, "2: x1-x0<=5 x1-x2<=5 x2-x0<=6 x2-x1<=1"}, {2, limits(t, "x1-x0<=5 x1-x0<3 x1-x0<=4"), api.OK, "2: x1-x0<3 x1-x2<3"}, {1, limits(t, "x1-x0<=2 x0-x1<-2"), api.OK, "1: empty"}, {1, []api.Limit{{}}, api.OK, "1: empty"}, {1, []api.Limit{{I: 1, Bound: api.Inf}}, api.OK, "1:"},
		{1, long, api.ErrForm, ""}, {2, long, api.ErrBound, ""}, {2, append([]api.Limit{{I: 3}}, long...), api.ErrForm, ""}, {2, append([]api.Limit{{J: -1}}, long...), api.ErrForm, ""}, {2, append(long[:2:2], api.Limit{Bound: api.Inf - 1}), api.ErrForm, ""}, {2, append(long[:2:2], api.Limit{}), api.OK, "2: empty"},
	} {
		given := slices.Clone(w.l)
		z, err := Back(w.n, w.l)
		if err != w.err || (z == nil) != (err != api.OK) || z.Print() != w.text {
			t.Error(w.n, w.l, z.Print(), err, "not", w.text, w.err)
		}
		if !slices.Equal(given, w.l) {
			t.Error("changed", given, w.l)
		}
	}
	for _, b := range wrongBounds() {
		if z, err := Back(1, []api.Limit{{I: 1, Bound: b}}); z != nil || err != api.ErrForm {
			t.Error(b, z, err)
		}
	}
	r := source(2)
	counts := map[api.Errno]int{}
	for range 20000 {
		n := r.IntN(4) + r.IntN(2)*r.IntN(7)
		var l []api.Limit
		for range r.IntN(6) {
			x := api.Limit{I: r.IntN(min(n, 8) + 1), J: r.IntN(min(n, 8) + 1), Bound: api.Bound(r.IntN(20) - 6)}
			switch r.IntN(12) {
			case 0:
				x.Bound = wrongBounds()[r.IntN(6)]
			case 1:
				x.I = 9
			case 2, 3, 4:
				x.Bound = []api.Bound{most, most - 1, least, api.Inf}[r.IntN(4)]
			}
			l = append(l, x)
		}
		z, err := Back(n, l)
		y, want := dbm.Limits(n, l...)
		if counts[err]++; err != want || z.Print() != y.Print() || (z == nil) != (y == nil) {
			t.Fatal(n, l, z, err, y, want)
		}
	}
	for _, err := range []api.Errno{api.OK, api.ErrClock, api.ErrForm, api.ErrBound} {
		if counts[err] < 50 {
			t.Error(err, counts)
		}
	}
}

// TestP25_1Pack: the bytes of zones.
func TestP25_1Pack(t *testing.T) {
	for _, w := range []struct {
		n    int
		zone string
		want []byte
	}{
		{0, "", []byte{0, 0}}, {8, "", []byte{8, 0}}, {1, "x1-x0<=0", []byte{1, 1, 0x10, 0x80, 0, 0, 1}}, {2, "x1-x0<=5 x2-x1<=1", []byte{2, 2, 0x10, 0x80, 0, 0, 11, 0x21, 0x80, 0, 0, 3}}, {1, "x0-x1<=-3", []byte{1, 1, 0x01, 0x7f, 0xff, 0xff, 0xfb}}, {8, "x8-x7<=268435456", []byte{8, 1, 0x87, 0xa0, 0, 0, 1}}, {8, "x0-x8<-268435456", []byte{8, 1, 0x08, 0x60, 0, 0, 0}}, {3, "x3-x1<66052", []byte{3, 1, 0x31, 0x80, 0x02, 0x04, 0x08}},
	} {
		if b, err := Pack(made(t, w.n, w.zone)); err != api.OK || !bytes.Equal(b, w.want) {
			t.Error(w.n, w.zone, b, err, "not", w.want)
		}
	}
	// Each number as dbm.Key has it.
	eachZone(t, 3, api.MaxClocks, 3000, func(r *rand.Rand, z *dbm.Zone) {
		b, err := Pack(z)
		l, _ := Few(z)
		if err != api.OK || len(b) != 2+5*len(l) || int(b[0]) != z.Dim() || int(b[1]) != len(l) {
			t.Fatal(z.Print(), b, err)
		}
		key := z.Key()
		for k, x := range l {
			at := 1 + 4*(x.I*(z.Dim()+1)+x.J)
			if piece := b[2+5*k : 7+5*k]; int(piece[0]) != 16*x.I+x.J || !bytes.Equal(piece[1:], key[at:at+4]) {
				t.Fatal(z.Print(), x, piece)
			}
		}
	})
}

// put are the bytes of n clocks, of how many bounds there are said to be, and of bounds.
func put(n, many byte, l ...api.Limit) []byte {
	b := wantBytes(int(n), l)
	b[1] = many
	return b
}

// TestP25_1Unpack: what Pack does not write, each with its place.
func TestP25_1Unpack(t *testing.T) {
	x1, x21 := api.Limit{I: 1, Bound: atMost(5)}, api.Limit{I: 2, J: 1, Bound: atMost(1)}
	wrong := func(b api.Bound) api.Limit { return api.Limit{I: 1, Bound: b} }
	for _, w := range []struct {
		b  []byte
		at int
	}{
		// No bytes, a first byte that is too great, no second one.
		{nil, 0}, {[]byte{}, 0}, {[]byte{9}, 0}, {[]byte{255}, 0}, {[]byte{9, 0}, 0}, {put(9, 1, x1), 0}, {put(9, 2, x1), 0}, {put(16, 0, x1), 0}, {put(128, 1, api.Limit{I: 15}), 0}, {[]byte{0}, 1}, {[]byte{1}, 1}, {[]byte{8}, 1},
		// Fewer bytes than are told.
		{[]byte{1, 1}, 2}, {[]byte{8, 255}, 2}, {put(1, 1, x1)[:3], 3}, {put(1, 1, x1)[:6], 6}, {put(2, 2, x1), 7}, {put(2, 255, x1, x21), 12}, {put(2, 2, x1, x21)[:11], 11}, {put(1, 2, api.Limit{I: 15, J: 15}), 7}, {put(0, 2, wrong(api.Inf-1)), 7},
		// More of them.
		{[]byte{0, 0, 0}, 2}, {put(1, 0, x1), 2}, {append(put(1, 1, x1), 0), 7}, {put(2, 1, x1, x21), 7}, {append(put(2, 2, x1, x21), 1, 2, 3), 12}, {put(1, 1, api.Limit{I: 15}, x1), 7}, {put(0, 0, wrong(api.Inf-1)), 2},
		// An I, a J, a Bound that may not be: the first of them.
		{put(1, 1, api.Limit{I: 2, Bound: 1}), 2}, {put(1, 1, api.Limit{J: 2, Bound: 1}), 2}, {put(0, 1, api.Limit{I: 1, Bound: 1}), 2}, {put(0, 1, api.Limit{J: 1, Bound: 1}), 2}, {put(8, 1, api.Limit{I: 9, Bound: 1}), 2}, {put(8, 1, api.Limit{J: 9, Bound: 1}), 2}, {put(8, 1, api.Limit{I: 15, J: 15, Bound: 1}), 2},
		{put(2, 2, x1, api.Limit{I: 3, J: 1, Bound: 1}), 7}, {put(2, 2, x1, api.Limit{I: 1, J: 3, Bound: 1}), 7}, {put(2, 3, x1, x1, api.Limit{I: 3, J: 1, Bound: 1}), 12}, {put(2, 3, x1, api.Limit{J: 3, Bound: 1}, api.Limit{I: 3, J: 1, Bound: 1}), 7}, {put(2, 3, x21, wrong(api.Inf-1), api.Limit{I: 3}), 7}, {put(2, 3, x21, api.Limit{I: 3}, wrong(api.Inf-1)), 7}, {put(2, 2, api.Limit{}, wrong(most+1)), 7}, {put(2, 3, append(limits(t, "x1-x0<=268435456 x2-x1<=268435456"), wrong(most+2))...), 12},
		// Bounds that make no zone.
		{put(2, 2, limits(t, "x1-x0<=268435456 x2-x1<=268435456")...), 2}, {put(2, 2, limits(t, "x0-x1<=-268435456 x1-x2<=-1")...), 2},
		// That are not the few ones of theirs.
		{put(1, 1, wrong(api.Inf)), 2}, {put(2, 1, api.Limit{I: 1, J: 1, Bound: atMost(0)}), 2}, {put(0, 1, api.Limit{Bound: atMost(0)}), 2}, {put(0, 1, api.Limit{Bound: api.Inf}), 2}, {put(1, 1, api.Limit{J: 1, Bound: atMost(0)}), 2}, {put(1, 1, api.Limit{J: 1, Bound: atMost(4)}), 2}, {put(1, 2, x1, x1), 2}, {put(1, 2, x1, wrong(atMost(6))), 2}, {put(2, 3, limits(t, "x1-x0<=5 x2-x0<=6 x2-x1<=1")...), 2}, {put(2, 2, limits(t, "x1-x0<=0 x2-x0<=0")...), 2}, {put(2, 3, limits(t, "x0-x1<=0 x1-x2<=0 x2-x0<=0")...), 2}, {put(2, 3, limits(t, "x1-x2<=3 x2-x1<=-3 x0-x1<=-3")...), 2}, {put(2, 3, limits(t, "x1-x2<=3 x2-x1<=-3 x0-x2<=-1")...), 2}, {put(2, 2, limits(t, "x2-x1<=-3 x1-x0<=2")...), 2},
		// Of an empty zone there is just one.
		{put(1, 1, api.Limit{I: 1, J: 1}), 2}, {put(1, 1, api.Limit{Bound: -1}), 2}, {put(1, 1, api.Limit{Bound: -2}), 2}, {put(1, 1, wrong(-1)), 2}, {put(1, 2, api.Limit{}, api.Limit{}), 2}, {put(1, 2, api.Limit{}, x1), 2}, {put(1, 2, x1, api.Limit{}), 2}, {put(1, 2, limits(t, "x0-x1<=-3 x1-x0<=2")...), 2},
		// In another order.
		{put(2, 2, x21, x1), 2}, {put(2, 2, limits(t, "x2-x0<=0 x1-x2<=0")...), 2}, {put(2, 2, limits(t, "x2-x1<=0 x1-x0<=0")...), 2}, {put(1, 2, limits(t, "x1-x0<=3 x0-x1<=-3")...), 2}, {put(2, 3, limits(t, "x0-x1<=-4 x1-x2<=3 x2-x1<=-3")...), 2}, {put(2, 3, limits(t, "x0-x2<=-5 x2-x1<=-2 x1-x0<=3")...), 2},
	} {
		given := slices.Clone(w.b)
		if z, err, at := Unpack(w.b); z != nil || err != api.ErrForm || at != w.at {
			t.Error(w.b, z.Print(), err, at, "not", w.at)
		}
		if !bytes.Equal(w.b, given) {
			t.Error("changed", w.b, given)
		}
	}
	for _, b := range wrongBounds() {
		if z, err, at := Unpack(put(2, 2, x1, wrong(b))); z != nil || err != api.ErrForm || at != 7 {
			t.Error(b, z.Print(), err, at)
		}
	}
	for _, b := range []api.Bound{most, most - 1, least, least + 1} {
		x := api.Limit{I: 1, J: 2, Bound: b}
		if z, err, at := Unpack(put(2, 1, x)); err != api.OK || at != 0 || !z.Equal(must(t)(dbm.Limits(2, x))) {
			t.Error(b, z.Print(), err, at)
		}
	}
}

// TestP25_1UnpackAll: of all rows of up to three small bounds of few clocks those that are the few ones of a zone are taken, and no others.
func TestP25_1UnpackAll(t *testing.T) {
	taken := 0
	for n := range 3 {
		numbers := []api.Bound{-3, -1, 0, 1, 2, 5, api.Inf}
		var all []api.Limit
		for i := range n + 2 {
			for j := range n + 2 {
				for _, b := range numbers {
					// Of the clock that is none once is enough.
					if max(i, j) <= n || i+j == n+1 && b == 1 {
						all = append(all, api.Limit{I: i, J: j, Bound: b})
					}
				}
			}
		}
		rows := [][]api.Limit{nil}
		for k := range 4 {
			if k == 3 && n > 1 {
				break
			}
			var longer [][]api.Limit
			for _, row := range rows {
				b := wantBytes(n, row)
				want := wantPlace(b)
				z, err, at := Unpack(b)
				if want < 0 {
					if taken++; err != api.OK || at != 0 || !z.Equal(must(t)(dbm.Limits(n, row...))) {
						t.Fatal(n, row, z, err, at)
					}
				} else if z != nil || err != api.ErrForm || at != want {
					t.Fatal(n, row, z.Print(), err, at, want)
				}
				for _, x := range all {
					longer = append(longer, append(slices.Clone(row), x))
				}
			}
			rows = longer
		}
	}
	if taken < 100 {
		t.Error(taken)
	}
}

// spoil changes bytes at random.
func spoil(r *rand.Rand, b []byte) []byte {
	b = slices.Clone(b)
	at := 0
	if len(b) > 0 {
		at = r.IntN(len(b))
	}
	switch k := r.IntN(8); {
	case k == 0:
		return b[:at]
	case k == 1:
		return append(b, byte(r.IntN(256)))
	case k == 2:
		return slices.Insert(b, at, byte(r.IntN(256)))
	case k == 3 && len(b) >= 12:
		i, j := 2+5*r.IntN((len(b)-2)/5), 2+5*r.IntN((len(b)-2)/5)
		piece := slices.Clone(b[i : i+5])
		copy(b[i:i+5], b[j:j+5])
		copy(b[j:j+5], piece)
	case k == 4 && len(b) >= 7:
		i := 2 + 5*r.IntN((len(b)-2)/5)
		b[1]--
		return slices.Delete(b, i, i+5)
	case len(b) > 0:
		b[at] += []byte{1, 255, 2, 16, 128, byte(r.IntN(256))}[r.IntN(6)]
	}
	return b
}

// TestP25_1UnpackModel: bytes of zones, and such bytes spoilt, held against the words.
func TestP25_1UnpackModel(t *testing.T) {
	counts := map[int]int{}
	eachZone(t, 4, api.MaxClocks, 20000, func(r *rand.Rand, z *dbm.Zone) {
		b, err := Pack(z)
		if err != api.OK {
			t.Fatal(err)
		}
		for range 1 + r.IntN(3) {
			b = spoil(r, b)
		}
		given := slices.Clone(b)
		y, err, at := Unpack(b)
		want := wantPlace(b)
		counts[min(want, 8)]++
		if want < 0 {
			if own, _ := Pack(y); err != api.OK || at != 0 || !bytes.Equal(own, b) {
				t.Fatal(b, y.Print(), err, at)
			}
		} else if y != nil || err != api.ErrForm || at != want {
			t.Fatal(b, y.Print(), err, at, want)
		}
		if !bytes.Equal(b, given) {
			t.Fatal("changed", b, given)
		}
	})
	for _, at := range []int{-1, 0, 1, 2, 7, 8} {
		if counts[at] < 50 {
			t.Error(at, counts)
		}
	}
}

// TestP3Lists: what is handed in stays as it is, spare room too; what is answered is the caller's.
func TestP3Lists(t *testing.T) {
	eachZone(t, 5, api.MaxClocks, 500, func(r *rand.Rand, z *dbm.Zone) {
		before := z.Print()
		var answers []any
		for range 2 {
			few, _ := Few(z)
			l, _ := Classes(z)
			b, _ := Pack(z)
			answers = append(answers, few, l, b)
		}
		told := fmt.Sprint(answers...)
		few, b := answers[0].([]api.Limit), answers[2].([]byte)
		row := append(slices.Clone(few), api.Limit{I: 7, J: 7, Bound: 7})
		raw := append(slices.Clone(b), 7, 7, 7)
		rowBefore, rawBefore := slices.Clone(row), slices.Clone(raw)
		y := must(t)(Back(z.Dim(), row[:len(few)]))
		x, err, at := Unpack(raw[:len(b)])
		if err != api.OK || at != 0 || !slices.Equal(row, rowBefore) || !bytes.Equal(raw, rawBefore) || fmt.Sprint(answers...) != told {
			t.Fatal("changed", z.Print(), err, at)
		}
		if shared(append(answers, row, raw)...) {
			t.Fatal("shared", z.Print())
		}
		for _, a := range append(answers, row, raw) {
			switch l := a.(type) {
			case []api.Limit:
				clear(l[:cap(l)])
			case []byte:
				clear(l[:cap(l)])
			case [][]int:
				for _, class := range l {
					clear(class[:cap(class)])
				}
			}
		}
		if z.Print() != before || y.Print() != before || x.Print() != before {
			t.Fatal("kept", before, z.Print(), y.Print(), x.Print())
		}
		if l, _ := Few(z); !slices.Equal(l, rowBefore[:len(l)]) {
			t.Fatal("kept", before, l)
		}
	})
	z := empty(t, 2)
	l, _ := Few(z)
	l[0].I = 5
	if l, _ := Few(z); l[0] != (api.Limit{}) {
		t.Error("kept", l)
	}
}
