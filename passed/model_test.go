package passed

import (
	"bytes"
	"fmt"
	"math"
	"math/rand/v2"
	"slices"
	"strings"
	"testing"

	"gnomon/api"
	"gnomon/dbm"
)

func source(seed uint64) *rand.Rand { return rand.New(rand.NewPCG(16, seed)) }

func parse(t testing.TB, s string) *dbm.Zone {
	t.Helper()
	z, err := dbm.Parse(s)
	if err != api.OK {
		t.Fatal(s, err)
	}
	return z
}

// span is the zone of one clock from a to b.
func span(t testing.TB, a, b int) *dbm.Zone {
	t.Helper()
	z, err := dbm.Limits(1, api.Limit{I: 1, Bound: api.Bound(2*b + 1)}, api.Limit{J: 1, Bound: api.Bound(-2*a + 1)})
	if err != api.OK {
		t.Fatal(a, b, err)
	}
	return z
}

func upTo(t testing.TB, b int) *dbm.Zone {
	t.Helper()
	return span(t, 0, b)
}

func empty(t testing.TB, n int) *dbm.Zone {
	t.Helper()
	z, err := dbm.Limits(n, api.Limit{})
	if err != api.OK {
		t.Fatal(n, err)
	}
	return z
}

// record is an entry by the words of the chapter.
type record struct {
	key   string
	zone  *dbm.Zone
	gone  bool
	waits bool
	taken int
}

// book is a store by the words of the chapter: each question goes through all records.
type book struct {
	last    bool
	records []record
	takes   int
}

func (b *book) of(key []byte) []int {
	var l []int
	for i, r := range b.records {
		if r.key == string(key) && !r.gone {
			l = append(l, i)
		}
	}
	return l
}

func (b *book) covers(key []byte, z *dbm.Zone) int {
	for _, i := range b.of(key) {
		if b.records[i].zone.Includes(z) {
			return i
		}
	}
	return -1
}

func (b *book) put(key []byte, z *dbm.Zone) (int, bool, []int, api.Errno) {
	if z == nil {
		return 0, false, nil, api.ErrNil
	}
	if i := b.covers(key, z); i >= 0 {
		return i, true, nil, api.OK
	}
	if len(b.records) >= api.MaxZones {
		return 0, false, nil, api.ErrZones
	}
	var dropped []int
	for _, i := range b.of(key) {
		if z.Includes(b.records[i].zone) {
			dropped = append(dropped, i)
			b.records[i].gone, b.records[i].waits = true, false
		}
	}
	b.records = append(b.records, record{string(key), z, false, true, -1})
	return len(b.records) - 1, false, dropped, api.OK
}

func (b *book) waiting() []int {
	var l []int
	for i, r := range b.records {
		if r.waits {
			l = append(l, i)
		}
	}
	if b.last {
		slices.Reverse(l)
	}
	return l
}

func (b *book) take() (int, bool) {
	l := b.waiting()
	if len(l) == 0 {
		return 0, false
	}
	b.records[l[0]].waits = false
	b.records[l[0]].taken = b.takes
	b.takes++
	return l[0], true
}

func (b *book) fork() *book {
	return &book{b.last, slices.Clone(b.records), b.takes}
}

// outside are numbers that are none of an entry of a store with so many.
func outside(n int) []int {
	return []int{math.MinInt, -1 << 32, -2, -1, n, n + 1, n + 1<<32, math.MaxInt}
}

// same holds all faces of a store to a book.
func same(t testing.TB, s *Store, b *book) {
	t.Helper()
	if s.Len() != len(b.records) || !slices.Equal(s.Waiting(), b.waiting()) {
		t.Fatal(s.Len(), len(b.records), s.Waiting(), b.waiting())
	}
	for i, r := range b.records {
		key, err := s.Key(i)
		z, err2 := s.Zone(i)
		if string(key) != r.key || !z.Equal(r.zone) || err != api.OK || err2 != api.OK || s.Gone(i) != r.gone || s.Taken(i) != r.taken {
			t.Fatal(i, key, z.Print(), err, err2, s.Gone(i), s.Taken(i), r)
		}
	}
	for _, i := range outside(len(b.records)) {
		key, err := s.Key(i)
		z, err2 := s.Zone(i)
		if len(key) != 0 || z != nil || err != api.ErrNone || err2 != api.ErrNone || s.Gone(i) || s.Taken(i) != -1 {
			t.Fatal(i, key, z, err, err2, s.Gone(i), s.Taken(i))
		}
	}
	for _, key := range keys() {
		if l := s.Of(key); !slices.Equal(l, b.of(key)) {
			t.Fatal(key, l, b.of(key))
		}
	}
}

// puts holds what Put answers to a book.
func puts(t testing.TB, s *Store, b *book, key []byte, z *dbm.Zone) (int, bool, []int) {
	t.Helper()
	if i, want := s.Covers(key, z), b.covers(key, z); i != want {
		t.Fatal("Covers", key, z.Print(), i, want)
	}
	i, covered, dropped, err := s.Put(key, z)
	wantI, wantCovered, wantDropped, wantErr := b.put(key, z)
	if i != wantI || covered != wantCovered || !slices.Equal(dropped, wantDropped) || err != wantErr {
		t.Fatal("Put", key, z.Print(), i, covered, dropped, err, wantI, wantCovered, wantDropped, wantErr)
	}
	return i, covered, dropped
}

// takes holds what Take answers to a book.
func takes(t testing.TB, s *Store, b *book) (int, bool) {
	t.Helper()
	i, some := s.Take()
	if want, wantSome := b.take(); i != want || some != wantSome {
		t.Fatal("Take", i, some, want, wantSome)
	}
	return i, some
}

// keys are nil, empty, of unlike lengths, and such as begin alike.
func keys() [][]byte {
	return [][]byte{nil, {}, {0}, {0, 0}, {1}, {0, 1}, {255}, {255, 255, 255, 255}, bytes.Repeat([]byte{7}, 100)}
}

// zones are some that include one another, or meet, or neither: of unlike numbers of clocks, empty ones too.
func zones(t testing.TB, r *rand.Rand) []*dbm.Zone {
	t.Helper()
	l := []*dbm.Zone{nil}
	for n := range 4 {
		u, err := dbm.Universe(n)
		o, err2 := dbm.Zero(n)
		if err != api.OK || err2 != api.OK {
			t.Fatal(err, err2)
		}
		l = append(l, u, o, empty(t, n))
	}
	for a := range 4 {
		for b := a; b < 6; b++ {
			l = append(l, span(t, a, b))
		}
	}
	for range 20 {
		var limits []api.Limit
		for range 1 + r.IntN(3) {
			limits = append(limits, api.Limit{I: r.IntN(3), J: r.IntN(3), Bound: api.Bound(r.IntN(14) - 3)})
		}
		z, err := dbm.Limits(2, limits...)
		if err != api.OK {
			t.Fatal(limits, err)
		}
		l = append(l, z)
	}
	return l
}

// told is all that a store tells, as a text: of each key, where it comes up first, its entries too.
func told(s *Store) string {
	var text strings.Builder
	fmt.Fprint(&text, s.Len(), s.Waiting())
	seen := map[string]int{}
	for i := range s.Len() {
		key, _ := s.Key(i)
		z, _ := s.Zone(i)
		fmt.Fprint(&text, " | ", key, z.Print(), s.Gone(i), s.Taken(i))
		if seen[string(key)]++; seen[string(key)] == 1 {
			fmt.Fprint(&text, s.Of(key))
		}
	}
	return text.String()
}

// eachBook hands stores that were put into and taken from at random to a function, behind each call, with what was put last.
func eachBook(t *testing.T, seed uint64, many, calls int, check func(r *rand.Rand, s *Store, b *book, key []byte, z *dbm.Zone)) {
	t.Helper()
	r := source(seed)
	for k := range many {
		list := zones(t, r)[1:]
		s, b := New(k%2 == 0), &book{last: k%2 == 0}
		few := keys()[:1+r.IntN(4)]
		for range calls {
			key, z := few[r.IntN(len(few))], list[r.IntN(len(list))]
			puts(t, s, b, key, z)
			if r.IntN(3) == 0 {
				takes(t, s, b)
			}
			check(r, s, b, key, z)
		}
	}
}
