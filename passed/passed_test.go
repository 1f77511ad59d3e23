package passed

import (
	"fmt"
	"math/rand/v2"
	"slices"
	"testing"

	"gnomon/api"
	"gnomon/dbm"
)

// isPut holds what Put answers to words.
func isPut(t *testing.T, want string) func(int, bool, []int, api.Errno) {
	return func(number int, covered bool, dropped []int, err api.Errno) {
		t.Helper()
		if got := fmt.Sprint(number, covered, dropped, err); got != want {
			t.Error(got, "not", want)
		}
	}
}

// TestP16Examples: those of the chapter.
func TestP16Examples(t *testing.T) {
	s := New(false)
	key := []byte{1}
	isPut(t, "0 false [] 0")(s.Put(key, upTo(t, 3)))
	isPut(t, "1 false [0] 0")(s.Put(key, upTo(t, 5)))
	if l := s.Waiting(); !slices.Equal(l, []int{1}) {
		t.Error(l)
	}
	isPut(t, "1 true [] 0")(s.Put(key, upTo(t, 4)))
	if !s.Gone(0) || s.Gone(1) || s.Len() != 2 {
		t.Error(told(s))
	}
	s = New(true)
	for i := range 3 {
		isPut(t, fmt.Sprint(i, " false [] 0"))(s.Put([]byte{byte(i)}, upTo(t, 3)))
	}
	if l := s.Waiting(); !slices.Equal(l, []int{2, 1, 0}) {
		t.Error(l)
	}
}

// TestP16_1New: an empty store has nothing; and each is another one.
func TestP16_1New(t *testing.T) {
	for _, last := range []bool{false, true} {
		s := New(last)
		same(t, s, &book{last: last})
		if i, some := s.Take(); i != 0 || some {
			t.Error(i, some)
		}
		if i := s.Covers(nil, empty(t, 0)); i != -1 {
			t.Error(i)
		}
		o := New(last)
		o.Put(nil, upTo(t, 3))
		same(t, s, &book{last: last})
	}
}

// TestP16_1Put: what is covered, by the first; what is dropped, rising; and what neither is.
func TestP16_1Put(t *testing.T) {
	s := New(false)
	key := []byte{7}
	isPut(t, "0 false [] 0")(s.Put(key, span(t, 0, 3)))
	isPut(t, "1 false [] 0")(s.Put(key, span(t, 2, 5)))
	isPut(t, "2 false [] 0")(s.Put(key, span(t, 4, 8)))
	isPut(t, "3 false [] 0")(s.Put(key, span(t, 1, 4)))
	// Both the entries 0 and 3 include it, and 1 and 3: the first one is told.
	isPut(t, "0 true [] 0")(s.Put(key, span(t, 1, 3)))
	isPut(t, "1 true [] 0")(s.Put(key, span(t, 2, 4)))
	isPut(t, "2 true [] 0")(s.Put(key, span(t, 6, 8)))
	// What two of them include together, none of them does: 4 drops what it includes.
	isPut(t, "4 false [1 3] 0")(s.Put(key, span(t, 1, 5)))
	if l := s.Of(key); !slices.Equal(l, []int{0, 2, 4}) {
		t.Error(l)
	}
	// What is Gone neither covers, nor is dropped again.
	isPut(t, "4 true [] 0")(s.Put(key, span(t, 2, 5)))
	isPut(t, "5 false [0 2 4] 0")(s.Put(key, span(t, 0, 8)))
	isPut(t, "6 false [5] 0")(s.Put(key, parse(t, "1:")))
	if l := s.Of(key); !slices.Equal(l, []int{6}) || s.Len() != 7 {
		t.Error(l)
	}
	for i := range 6 {
		if !s.Gone(i) {
			t.Error(i)
		}
	}
	// One that is alike is covered; of bounds that may be reached, or not, the stricter one is.
	isPut(t, "6 true [] 0")(s.Put(key, parse(t, "1:")))
	key = []byte{8}
	isPut(t, "7 false [] 0")(s.Put(key, parse(t, "1: x1-x0<3")))
	isPut(t, "8 false [7] 0")(s.Put(key, parse(t, "1: x1-x0<=3")))
	isPut(t, "8 true [] 0")(s.Put(key, parse(t, "1: x1-x0<3")))
}

// TestP16_1Keys: nil and empty are one key; of others each byte counts, and how many there are.
func TestP16_1Keys(t *testing.T) {
	s := New(false)
	isPut(t, "0 false [] 0")(s.Put(nil, upTo(t, 3)))
	isPut(t, "0 true [] 0")(s.Put([]byte{}, upTo(t, 3)))
	for i, key := range keys()[2:] {
		if n := s.Covers(key, upTo(t, 1)); n != -1 {
			t.Error(key, n)
		}
		isPut(t, fmt.Sprint(i+1, " false [] 0"))(s.Put(key, upTo(t, 3)))
	}
	for i, key := range keys()[2:] {
		isPut(t, fmt.Sprint(i+1, " true [] 0"))(s.Put(key, upTo(t, 2)))
		if l := s.Of(key); !slices.Equal(l, []int{i + 1}) {
			t.Error(key, l)
		}
		if got, err := s.Key(i + 1); !slices.Equal(got, key) || err != api.OK {
			t.Error(key, got, err)
		}
	}
	for _, key := range [][]byte{nil, {}} {
		if l := s.Of(key); !slices.Equal(l, []int{0}) || s.Covers(key, upTo(t, 3)) != 0 {
			t.Error(l)
		}
	}
	if key, err := s.Key(0); len(key) != 0 || err != api.OK {
		t.Error(key, err)
	}
	if l := s.Of([]byte{9}); len(l) != 0 {
		t.Error(l)
	}
	// What is dropped is of its own key.
	isPut(t, "8 false [1] 0")(s.Put([]byte{0}, upTo(t, 9)))
	isPut(t, "9 false [0] 0")(s.Put([]byte{}, upTo(t, 4)))
	isPut(t, "10 false [9] 0")(s.Put(nil, upTo(t, 5)))
}

// TestP16_1Dim: zones of other numbers of clocks include nothing; an empty zone is stored like any.
func TestP16_1Dim(t *testing.T) {
	s := New(true)
	key := []byte{0}
	for n := range api.MaxClocks + 1 {
		u, _ := dbm.Universe(n)
		isPut(t, fmt.Sprint(2*n, " false [] 0"))(s.Put(key, empty(t, n)))
		isPut(t, fmt.Sprint(2*n, " true [] 0"))(s.Put(key, empty(t, n)))
		isPut(t, fmt.Sprint(2*n+1, " false [", 2*n, "] 0"))(s.Put(key, u))
		isPut(t, fmt.Sprint(2*n+1, " true [] 0"))(s.Put(key, empty(t, n)))
		isPut(t, fmt.Sprint(2*n+1, " true [] 0"))(s.Put(key, u))
	}
	if l := s.Of(key); len(l) != api.MaxClocks+1 || !slices.Equal(l, []int{1, 3, 5, 7, 9, 11, 13, 15, 17}) {
		t.Error(l)
	}
	if z, err := s.Zone(4); !z.Empty() || z.Dim() != 2 || err != api.OK || !s.Gone(4) {
		t.Error(z.Print(), err)
	}
	if i, some := s.Take(); i != 17 || !some {
		t.Error(i, some)
	}
}

// TestP16_1Errors: ErrNil of a nil store or zone, whatever else there is; nothing changes.
func TestP16_1Errors(t *testing.T) {
	var none *Store
	for _, key := range keys() {
		isPut(t, "0 false [] 1")(none.Put(key, upTo(t, 3)))
		isPut(t, "0 false [] 1")(none.Put(key, nil))
		s := New(false)
		isPut(t, "0 false [] 1")(s.Put(key, nil))
		s.Put(key, upTo(t, 3))
		before := told(s)
		isPut(t, "0 false [] 1")(s.Put(key, nil))
		if told(s) != before || s.Covers(key, nil) != -1 {
			t.Error(told(s))
		}
	}
}

// TestP16_1Full: as many zones as may be stored, of unlike keys or of one; and one more, that is covered, would drop some, or all.
func TestP16_1Full(t *testing.T) {
	for _, one := range []bool{false, true} {
		s := New(one)
		keyOf := func(i int) []byte {
			if one {
				return []byte{5}
			}
			return []byte{byte(i >> 8), byte(i)}
		}
		for i := range api.MaxZones {
			isPut(t, fmt.Sprint(i, " false [] 0"))(s.Put(keyOf(i), span(t, i, i)))
		}
		before := told(s)
		for _, i := range []int{0, 1, 2000, api.MaxZones - 1} {
			isPut(t, fmt.Sprint(i, " true [] 0"))(s.Put(keyOf(i), span(t, i, i)))
			isPut(t, "0 true [] 0")(s.Put(keyOf(0), empty(t, 1)))
			// It would drop an entry; but there is no room ahead of that.
			isPut(t, "0 false [] 160")(s.Put(keyOf(i), span(t, 0, i+1)))
			isPut(t, "0 false [] 160")(s.Put(keyOf(i), parse(t, "1:")))
			isPut(t, "0 false [] 160")(s.Put(keyOf(i), parse(t, "2:")))
			isPut(t, "0 false [] 160")(s.Put([]byte{1, 2, 3}, empty(t, 1)))
			isPut(t, "0 false [] 1")(s.Put(keyOf(i), nil))
		}
		if told(s) != before {
			t.Error("changed")
		}
		isFull(t, s.Fork(), keyOf)
		isFull(t, s, keyOf)
	}
}

// isFull takes all that wait, by which there is no more room than before.
func isFull(t *testing.T, s *Store, keyOf func(int) []byte) {
	t.Helper()
	for k := range api.MaxZones {
		if _, some := s.Take(); !some {
			t.Fatal(k)
		}
	}
	if i, some := s.Take(); i != 0 || some || len(s.Waiting()) != 0 {
		t.Error(i, some)
	}
	isPut(t, "0 false [] 160")(s.Put(keyOf(3), parse(t, "1:")))
	isPut(t, "3 true [] 0")(s.Put(keyOf(3), span(t, 3, 3)))
	if s.Len() != api.MaxZones {
		t.Error(s.Len())
	}
}

// TestP16_1FullGone: entries that are Gone count as any.
func TestP16_1FullGone(t *testing.T) {
	s := New(false)
	for i := range api.MaxZones {
		want := fmt.Sprint(i, " false [", i-1, "] 0")
		if i == 0 {
			want = "0 false [] 0"
		}
		isPut(t, want)(s.Put(nil, upTo(t, i)))
	}
	last := api.MaxZones - 1
	isPut(t, "0 false [] 160")(s.Put(nil, upTo(t, api.MaxZones)))
	isPut(t, fmt.Sprint(last, " true [] 0"))(s.Put(nil, upTo(t, last)))
	isPut(t, "0 false [] 160")(s.Put([]byte{1}, upTo(t, last)))
	if l := s.Waiting(); !slices.Equal(l, []int{last}) || !slices.Equal(s.Of(nil), l) {
		t.Error(l)
	}
	// The last one that may be stored drops all others.
	s = New(true)
	for i := range last {
		s.Put(nil, span(t, i, i))
	}
	number, covered, dropped, err := s.Put(nil, parse(t, "1:"))
	if number != last || covered || len(dropped) != last || err != api.OK || !slices.IsSorted(dropped) || dropped[0] != 0 || dropped[last-1] != last-1 {
		t.Error(number, covered, len(dropped), err)
	}
	if i, some := s.Take(); i != last || !some || len(s.Waiting()) != 0 {
		t.Error(i, some)
	}
}

// TestP16_1Words: puts and takes, held against the words behind each of them.
func TestP16_1Words(t *testing.T) {
	counts := map[string]int{}
	r := source(1)
	for k := range 400 {
		list := zones(t, r)
		s, b := New(k%2 == 0), &book{last: k%2 == 0}
		for range 60 {
			if r.IntN(4) == 0 {
				_, some := takes(t, s, b)
				counts[fmt.Sprint("taken ", some)]++
			}
			z := list[r.IntN(len(list))]
			_, covered, dropped := puts(t, s, b, keys()[r.IntN(4)], z)
			counts[fmt.Sprint("covered ", covered)]++
			counts[fmt.Sprint("dropped ", min(len(dropped), 2))]++
			same(t, s, b)
		}
	}
	for _, word := range []string{"taken true", "taken false", "covered true", "covered false", "dropped 0", "dropped 1", "dropped 2"} {
		if counts[word] < 20 {
			t.Error(word, counts)
		}
	}
}

// TestP16_2Take: the first that waits, or the last; what is stored meanwhile comes into its turn; what is dropped has none.
func TestP16_2Take(t *testing.T) {
	take := func(s *Store, want int, some bool) {
		t.Helper()
		if i, ok := s.Take(); i != want || ok != some {
			t.Error(i, ok, want, some)
		}
	}
	waits := func(s *Store, want ...int) {
		t.Helper()
		if l := s.Waiting(); !slices.Equal(l, want) {
			t.Error(l, want)
		}
	}
	for _, last := range []bool{false, true} {
		s := New(last)
		for i := range 4 {
			s.Put([]byte{byte(i)}, upTo(t, 3))
		}
		first, next := 0, 1
		if last {
			first, next = 3, 2
			waits(s, 3, 2, 1, 0)
		} else {
			waits(s, 0, 1, 2, 3)
		}
		take(s, first, true)
		// The next one is dropped by 4.
		isPut(t, fmt.Sprint("4 false [", next, "] 0"))(s.Put([]byte{byte(next)}, upTo(t, 5)))
		if last {
			waits(s, 4, 1, 0)
			take(s, 4, true)
			take(s, 1, true)
			take(s, 0, true)
		} else {
			waits(s, 2, 3, 4)
			take(s, 2, true)
			take(s, 3, true)
			take(s, 4, true)
		}
		waits(s)
		take(s, 0, false)
		take(s, 0, false)
		isPut(t, fmt.Sprint("5 false [", first, "] 0"))(s.Put([]byte{byte(first)}, upTo(t, 9)))
		waits(s, 5)
		take(s, 5, true)
		take(s, 0, false)
	}
}

// TestP16_2Taken: how many were taken ahead, of those that are Gone since, too; -1 of those that were not, or are none.
func TestP16_2Taken(t *testing.T) {
	s := New(true)
	all := func(want ...int) {
		t.Helper()
		var got []int
		for i := range s.Len() {
			got = append(got, s.Taken(i))
		}
		if !slices.Equal(got, want) {
			t.Error(got, want)
		}
		for _, i := range outside(s.Len()) {
			if s.Taken(i) != -1 {
				t.Error(i, s.Taken(i))
			}
		}
	}
	for i := range 4 {
		s.Put([]byte{byte(i)}, upTo(t, 3))
	}
	all(-1, -1, -1, -1)
	s.Take()
	all(-1, -1, -1, 0)
	s.Take()
	all(-1, -1, 1, 0)
	// An entry that was taken is dropped, and one that was not.
	isPut(t, "4 false [3] 0")(s.Put([]byte{3}, upTo(t, 5)))
	isPut(t, "5 false [1] 0")(s.Put([]byte{1}, upTo(t, 5)))
	all(-1, -1, 1, 0, -1, -1)
	if !s.Gone(3) || !s.Gone(1) || s.Gone(2) || s.Gone(4) {
		t.Error(told(s))
	}
	s.Take()
	all(-1, -1, 1, 0, -1, 2)
	s.Take()
	s.Take()
	all(4, -1, 1, 0, 3, 2)
	if _, some := s.Take(); some {
		t.Error("taken")
	}
	all(4, -1, 1, 0, 3, 2)
}

// TestP16_2Waiting: Waiting is what Take tells from then on.
func TestP16_2Waiting(t *testing.T) {
	eachBook(t, 2, 300, 40, func(r *rand.Rand, s *Store, b *book, key []byte, z *dbm.Zone) {
		f := s.Fork()
		ahead := b.takes
		for k, want := range s.Waiting() {
			if i, some := f.Take(); i != want || !some || f.Taken(i) != ahead+k {
				t.Fatal(i, some, want)
			}
		}
		if i, some := f.Take(); i != 0 || some {
			t.Fatal(i, some)
		}
	})
}

// TestP16_3Gone: the key and the zone of what is Gone stay; numbers below 0 and just outside are none.
func TestP16_3Gone(t *testing.T) {
	s, b := New(false), &book{}
	same(t, s, b)
	puts(t, s, b, []byte{0, 1}, span(t, 1, 2))
	same(t, s, b)
	puts(t, s, b, []byte{0, 1}, span(t, 1, 3))
	takes(t, s, b)
	puts(t, s, b, []byte{0, 1}, span(t, 0, 3))
	same(t, s, b)
	for i, text := range []string{"1: x0-x1<=-1 x1-x0<=2", "1: x0-x1<=-1 x1-x0<=3", "1: x1-x0<=3"} {
		key, err := s.Key(i)
		if z, err2 := s.Zone(i); z.Print() != text || !slices.Equal(key, []byte{0, 1}) || err != api.OK || err2 != api.OK || s.Gone(i) != (i < 2) {
			t.Error(i, key, z.Print(), err, err2, s.Gone(i))
		}
	}
	if s.Len() != 3 || s.Taken(0) != -1 || s.Taken(1) != 0 || s.Taken(2) != -1 {
		t.Error(told(s))
	}
}

// TestP16_3Covers: the first of a key that includes a zone, and nothing changes by asking.
func TestP16_3Covers(t *testing.T) {
	eachBook(t, 3, 100, 20, func(r *rand.Rand, s *Store, b *book, key []byte, z *dbm.Zone) {
		before := told(s)
		for _, o := range zones(t, r) {
			for _, k := range keys() {
				if i := s.Covers(k, o); i != b.covers(k, o) {
					t.Fatal(k, o.Print(), i)
				}
			}
		}
		if told(s) != before {
			t.Fatal("changed", before, told(s))
		}
	})
}

// TestP16_3Fork: a fork has the same entries, and what becomes of one of the two changes nothing of the other one.
func TestP16_3Fork(t *testing.T) {
	r := source(4)
	for k := range 100 {
		list := zones(t, r)
		stores, books := []*Store{New(k%2 == 0)}, []*book{{last: k%2 == 0}}
		for range 150 {
			at := r.IntN(len(stores))
			s, b := stores[at], books[at]
			switch r.IntN(8) {
			case 0:
				if len(stores) < 5 {
					stores, books = append(stores, s.Fork()), append(books, b.fork())
				}
			case 1, 2:
				takes(t, s, b)
			default:
				puts(t, s, b, keys()[r.IntN(4)], list[r.IntN(len(list))])
			}
		}
		for at, s := range stores {
			same(t, s, books[at])
		}
	}
	var none *Store
	if f := none.Fork(); f != nil {
		t.Error(f)
	}
	f := New(true).Fork()
	f.Put(nil, upTo(t, 1))
	f.Put([]byte{1}, upTo(t, 1))
	if i, some := f.Take(); i != 1 || !some {
		t.Error("a fork takes from the same end", i, some)
	}
}

// TestP16_3ForkDrops: one of the two drops what the other one keeps.
func TestP16_3ForkDrops(t *testing.T) {
	s := New(false)
	for i := range 5 {
		s.Put(nil, span(t, 2*i, 2*i))
	}
	s.Take()
	before := told(s)
	f := s.Fork()
	if told(f) != before {
		t.Error(told(f))
	}
	isPut(t, "5 false [0 1 2] 0")(f.Put(nil, span(t, 0, 5)))
	f.Take()
	if told(s) != before {
		t.Error(before, told(s))
	}
	after := told(f)
	isPut(t, "5 false [0 1 2 3 4] 0")(s.Put(nil, span(t, 0, 10)))
	isPut(t, "6 false [] 0")(s.Put([]byte{1}, span(t, 0, 10)))
	s.Take()
	s.Take()
	if told(f) != after {
		t.Error(after, told(f))
	}
}

// TestP16_4Apart (E7): of two entries of one key that are not Gone neither includes the other.
func TestP16_4Apart(t *testing.T) {
	eachBook(t, 5, 300, 60, func(r *rand.Rand, s *Store, b *book, key []byte, z *dbm.Zone) {
		for _, i := range s.Of(key) {
			for _, j := range s.Of(key) {
				y, _ := s.Zone(i)
				o, _ := s.Zone(j)
				if i != j && y.Includes(o) || s.Gone(i) {
					t.Fatal(i, j, y.Print(), o.Print())
				}
			}
		}
	})
}

// TestP16_5Gone (E7): what is Gone is included in an entry of its key that is not.
func TestP16_5Gone(t *testing.T) {
	gone := 0
	eachBook(t, 6, 300, 60, func(r *rand.Rand, s *Store, b *book, key []byte, z *dbm.Zone) {
		for i := range s.Len() {
			k, _ := s.Key(i)
			y, _ := s.Zone(i)
			by := s.Covers(k, y)
			if by < 0 || s.Gone(by) || s.Gone(i) == (by == i) {
				t.Fatal(i, by, told(s))
			}
			if s.Gone(i) {
				gone++
			}
		}
	})
	if gone < 100 {
		t.Error(gone)
	}
}

// TestP16_6Covered: what was covered once is so for ever.
func TestP16_6Covered(t *testing.T) {
	r := source(7)
	for k := range 100 {
		list := zones(t, r)[1:]
		s := New(k%2 == 0)
		var was []*dbm.Zone
		for range 60 {
			z := list[r.IntN(len(list))]
			s.Put(nil, z)
			was = append(was, z)
			if r.IntN(2) == 0 {
				s.Take()
			}
			for _, o := range was {
				if s.Covers(nil, o) < 0 {
					t.Fatal(o.Print(), told(s))
				}
				if _, covered, _, err := s.Fork().Put(nil, o); !covered || err != api.OK {
					t.Fatal(o.Print(), told(s))
				}
			}
		}
	}
}

// TestP16_7Once: no entry is taken twice; Take tells each that is not dropped ahead of it.
func TestP16_7Once(t *testing.T) {
	r := source(8)
	for k := range 200 {
		list := zones(t, r)[1:]
		s := New(k%2 == 0)
		var taken, droppedAhead []int
		take := func() bool {
			i, some := s.Take()
			if some {
				if slices.Contains(taken, i) || slices.Contains(droppedAhead, i) || s.Taken(i) != len(taken) {
					t.Fatal(i, taken, droppedAhead)
				}
				taken = append(taken, i)
			}
			return some
		}
		for range 40 {
			_, _, dropped, _ := s.Put(keys()[r.IntN(5)], list[r.IntN(len(list))])
			for _, i := range dropped {
				if !slices.Contains(taken, i) {
					droppedAhead = append(droppedAhead, i)
				}
			}
			if r.IntN(3) == 0 {
				take()
			}
		}
		for take() {
		}
		if len(taken)+len(droppedAhead) != s.Len() {
			t.Fatal(taken, droppedAhead, s.Len())
		}
	}
}

// TestP16_8Order: which zones are kept in the end hangs neither on the order in which they were put, nor on what was taken.
func TestP16_8Order(t *testing.T) {
	r := source(9)
	for range 100 {
		list := zones(t, r)[1:]
		many := 1 + r.IntN(len(list))
		var want []string
		for k := range 6 {
			s := New(r.IntN(2) == 0)
			order := r.Perm(len(list))
			// The same zones, in another order.
			for _, at := range order {
				if at >= many {
					continue
				}
				s.Put([]byte{3}, list[at])
				if r.IntN(2) == 0 {
					s.Take()
				}
			}
			var kept []string
			for _, i := range s.Of([]byte{3}) {
				z, _ := s.Zone(i)
				kept = append(kept, z.Print())
			}
			slices.Sort(kept)
			if k == 0 {
				want = kept
			}
			if !slices.Equal(kept, want) {
				t.Fatal(kept, want)
			}
		}
	}
}

// TestP1Nil: a nil store has nothing; ErrNil, where there is an error.
func TestP1Nil(t *testing.T) {
	var s *Store
	if i, some := s.Take(); i != 0 || some {
		t.Error(i, some)
	}
	if s.Len() != 0 || len(s.Waiting()) != 0 || s.Fork() != nil {
		t.Error(s.Len(), s.Waiting())
	}
	for _, i := range outside(0) {
		key, err := s.Key(i)
		z, err2 := s.Zone(i)
		if len(key) != 0 || z != nil || err != api.ErrNil || err2 != api.ErrNil || s.Gone(i) || s.Taken(i) != -1 {
			t.Error(i, key, z, err, err2, s.Gone(i), s.Taken(i))
		}
	}
	for _, key := range keys() {
		if l := s.Of(key); len(l) != 0 {
			t.Error(l)
		}
		if i, j := s.Covers(key, upTo(t, 1)), s.Covers(key, nil); i != -1 || j != -1 {
			t.Error(i, j)
		}
	}
}

// TestP3StaysAsItIs: what is handed in stays as it is, spare room too, and may be changed behind the call; what is answered is the caller's.
func TestP3StaysAsItIs(t *testing.T) {
	s := New(false)
	room := []byte{1, 2, 3, 4}
	z := span(t, 1, 2)
	s.Put(room[:2], z)
	s.Put(room[:3], z)
	s.Put(room[:2], span(t, 5, 6))
	s.Put(room[:2], span(t, 7, 8))
	s.Covers(room[:2], z)
	s.Of(room[:2])
	if !slices.Equal(room, []byte{1, 2, 3, 4}) || z.Print() != "1: x0-x1<=-1 x1-x0<=2" {
		t.Error(room, z.Print())
	}
	clear(room)
	before := told(s)
	if l := s.Of([]byte{1, 2}); !slices.Equal(l, []int{0, 2, 3}) {
		t.Error(l)
	}
	for i := range s.Len() {
		key, _ := s.Key(i)
		clear(key[:cap(key)])
	}
	for range 2 {
		w, l := s.Waiting(), s.Of([]byte{1, 2})
		for _, list := range [][]int{w, l} {
			clear(list[:cap(list)])
		}
	}
	if told(s) != before {
		t.Error(before, told(s))
	}
	_, _, dropped, _ := s.Put([]byte{1, 2}, span(t, 0, 9))
	before = told(s)
	for i := range dropped[:cap(dropped)] {
		dropped[:cap(dropped)][i] = 77
	}
	if told(s) != before || !s.Gone(0) || !s.Gone(2) || !s.Gone(3) {
		t.Error(before, told(s))
	}
}

// TestP6Alike: the same calls have the same answers, whatever other stores do.
func TestP6Alike(t *testing.T) {
	text := ""
	for k := range 5 {
		r := source(11)
		s, other := New(true), New(false)
		list := zones(t, r)[1:]
		for range 80 {
			key := keys()[r.IntN(len(keys()))]
			s.Put(key, list[r.IntN(len(list))])
			if k%2 == 0 {
				other.Put(key, parse(t, "1:"))
				other.Take()
			}
			if r.IntN(3) == 0 {
				s.Take()
			}
		}
		if k == 0 {
			text = told(s)
		}
		if told(s) != text || told(s.Fork()) != text {
			t.Fatal(text, told(s))
		}
	}
}
