package reduce

import (
	"bytes"
	"math/rand/v2"
	"slices"
	"testing"

	"gnomon/api"
	"gnomon/dbm"
)

// TestP25_2Back: Back of Few is the zone.
func TestP25_2Back(t *testing.T) {
	try := func(z *dbm.Zone) {
		l, err := Few(z)
		if err != api.OK {
			t.Fatal(z.Print(), err)
		}
		if y, err := Back(z.Dim(), l); err != api.OK || !y.Equal(z) {
			t.Fatal(z.Print(), text(l), y.Print(), err)
		}
	}
	eachSmall(t, try)
	eachZone(t, 6, api.MaxClocks, 20000, func(r *rand.Rand, z *dbm.Zone) { try(z) })
	for n := 0; n <= api.MaxClocks; n++ {
		try(empty(t, n))
		try(must(t)(dbm.Universe(n)))
		try(must(t)(dbm.Zero(n)))
	}
}

// TestP25_2Points: the valuations that keep the few bounds are those of the zone.
func TestP25_2Points(t *testing.T) {
	list := [][][]int64{points(0, 1, 0), points(1, 2, 7), points(2, 3, 5), points(3, 4, 3)}
	in, out := 0, 0
	eachZone(t, 7, 3, 1000, func(r *rand.Rand, z *dbm.Zone) {
		l, err := Few(z)
		if err != api.OK {
			t.Fatal(err)
		}
		n, all := z.Dim(), finite(z)
		for _, p := range list[n] {
			is := keepsAll(p, int64(n+1), all)
			if keepsAll(p, int64(n+1), l) != is {
				t.Fatal(z.Print(), text(l), p)
			}
			if is {
				in++
			} else {
				out++
			}
		}
	})
	if in < 10000 || out < 10000 {
		t.Error(in, out)
	}
}

// TestP25_3Without: without any one of them another, greater zone comes back.
func TestP25_3Without(t *testing.T) {
	greater, beyond := 0, 0
	try := func(z *dbm.Zone) {
		l, _ := Few(z)
		if z.Empty() {
			return
		}
		for i := range l {
			y, err := Back(z.Dim(), slices.Delete(slices.Clone(l), i, i+1))
			// What comes back may have cells that no zone can hold: it is another one all the same.
			if err == api.ErrBound {
				beyond++
				continue
			}
			if greater++; err != api.OK || !y.Includes(z) || y.Equal(z) {
				t.Fatal(z.Print(), text(l), i, y.Print(), err)
			}
		}
	}
	eachSmall(t, try)
	eachZone(t, 8, api.MaxClocks, 10000, func(r *rand.Rand, z *dbm.Zone) { try(z) })
	try(made(t, 2, "x1-x0<=268435456 x2-x1<=268435455 x2-x0<=268435456"))
	if greater < 10000 || beyond == 0 {
		t.Error(greater, beyond)
	}
}

// TestP25_4Fewest: no fewer bounds make the zone. Of bounds that make it each may be taken as strict as the zone's cell, and more of its cells change nothing: so it is enough to go through the choices of one less of its cells.
func TestP25_4Fewest(t *testing.T) {
	chosen := 0
	try := func(z *dbm.Zone) {
		l, _ := Few(z)
		if z.Empty() {
			return
		}
		makes := func(few []api.Limit) bool {
			chosen++
			y, err := dbm.Limits(z.Dim(), few...)
			return err == api.OK && y.Equal(z)
		}
		if some(finite(z), len(l)-1, makes) {
			t.Fatal(z.Print(), text(l))
		}
		if !some(finite(z), len(l), makes) {
			t.Fatal(z.Print(), text(l))
		}
	}
	eachSmall(t, try)
	eachZone(t, 9, 3, 2000, func(r *rand.Rand, z *dbm.Zone) { try(z) })
	eachZone(t, 10, 4, 200, func(r *rand.Rand, z *dbm.Zone) {
		if len(finite(z)) <= 14 {
			try(z)
		}
	})
	if chosen < 100000 {
		t.Error(chosen)
	}
}

// TestP25_5Pack: Unpack of Pack is the zone; unlike zones have unlike bytes.
func TestP25_5Pack(t *testing.T) {
	keys := map[string]string{}
	try := func(z *dbm.Zone) {
		b, err := Pack(z)
		if err != api.OK {
			t.Fatal(z.Print(), err)
		}
		y, err, at := Unpack(b)
		if err != api.OK || at != 0 || !y.Equal(z) {
			t.Fatal(z.Print(), b, y.Print(), err, at)
		}
		if again, err := Pack(y); err != api.OK || !bytes.Equal(again, b) {
			t.Fatal(z.Print(), b, again, err)
		}
		if key, is := keys[string(b)]; is && key != string(z.Key()) {
			t.Fatal(z.Print(), b)
		}
		keys[string(b)] = string(z.Key())
	}
	eachSmall(t, try)
	eachZone(t, 11, api.MaxClocks, 20000, func(r *rand.Rand, z *dbm.Zone) { try(z) })
	for n := 0; n <= api.MaxClocks; n++ {
		try(empty(t, n))
		try(must(t)(dbm.Universe(n)))
		try(must(t)(dbm.Zero(n)))
	}
	if len(keys) < 5000 {
		t.Error(len(keys))
	}
}

// TestP25_5Most: as many bounds as a zone can have.
func TestP25_5Most(t *testing.T) {
	var l []api.Limit
	for i := range api.MaxClocks + 1 {
		for j := range api.MaxClocks + 1 {
			switch {
			case i == 0 && j != 0:
				l = append(l, api.Limit{I: i, J: j, Bound: atMost(-9)})
			case i != 0 && j == 0:
				l = append(l, api.Limit{I: i, J: j, Bound: atMost(20)})
			case i != j:
				l = append(l, api.Limit{I: i, J: j, Bound: atMost(10)})
			}
		}
	}
	z := must(t)(dbm.Limits(api.MaxClocks, l...))
	if few, err := Few(z); err != api.OK || !slices.Equal(few, l) || len(few) != 72 {
		t.Error(text(few), err)
	}
	b, err := Pack(z)
	if y, no, at := Unpack(b); err != api.OK || no != api.OK || at != 0 || !y.Equal(z) || len(b) != 362 {
		t.Error(len(b), err, no, at)
	}
}

// TestP25_6Classes: each clock once, rising; two clocks of one class have one difference in all valuations, two of unlike ones do not.
func TestP25_6Classes(t *testing.T) {
	list := [][][]int64{points(0, 1, 0), points(1, 2, 7), points(2, 3, 5), points(3, 4, 3)}
	alike, unlike := 0, 0
	eachZone(t, 12, api.MaxClocks, 6000, func(r *rand.Rand, z *dbm.Zone) {
		classes, err := Classes(z)
		if err != api.OK {
			t.Fatal(err)
		}
		class, heads := make([]int, z.Dim()+1), []int{}
		var all []int
		for k, l := range classes {
			if len(l) == 0 || !slices.IsSorted(l) {
				t.Fatal(z.Print(), classes)
			}
			heads, all = append(heads, l[0]), append(all, l...)
			for _, a := range l {
				class[a] = k
			}
		}
		slices.Sort(all)
		for i, a := range all {
			if a != i {
				t.Fatal(z.Print(), classes)
			}
		}
		if len(all) != z.Dim()+1 || !slices.IsSorted(heads) {
			t.Fatal(z.Print(), classes)
		}
		for i := range class {
			for j := range class {
				a, _ := z.Cell(i, j)
				b, _ := z.Cell(j, i)
				// The least and the greatest difference are one, and it is come to.
				settled := a != api.Inf && b != api.Inf && a%2 != 0 && b%2 != 0 && (a-1)/2 == -(b-1)/2
				if settled != (class[i] == class[j]) {
					t.Fatal(z.Print(), classes, i, j)
				}
			}
		}
		n := z.Dim()
		if n > 3 {
			return
		}
		var first []int64
		for _, p := range list[n] {
			if !keepsAll(p, int64(n+1), finite(z)) {
				continue
			}
			if first == nil {
				first = p
			}
			for i := range class {
				for j := range class {
					same := p[i]-p[j] == first[i]-first[j]
					if class[i] == class[j] && !same {
						t.Fatal(z.Print(), classes, first, p)
					}
					if same {
						alike++
					} else {
						unlike++
					}
				}
			}
		}
	})
	if alike < 10000 || unlike < 10000 {
		t.Error(alike, unlike)
	}
}
