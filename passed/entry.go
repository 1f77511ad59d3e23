package passed

import (
	"slices"

	"gnomon/api"
	"gnomon/dbm"
)

// none is the number of no entry, and how many were taken ahead of one that was not taken.
const none = -1

// entry is one zone that was stored. Its key is a string, as nobody can change that.
type entry struct {
	key   string
	zone  *dbm.Zone
	gone  bool
	taken int // how many were taken ahead of it
}

// at is an entry, or why there is none.
func (s *Store) at(i int) (entry, api.Errno) {
	if s == nil {
		return entry{}, api.ErrNil
	}
	if i < 0 || i >= len(s.entries) {
		return entry{}, api.ErrNone
	}
	return s.entries[i], api.OK
}

// add lays an entry behind all others, and lets it wait.
func (s *Store) add(key string, z *dbm.Zone) int {
	number := len(s.entries)
	s.entries = append(s.entries, entry{key: key, zone: z, taken: none})
	s.live[key] = append(s.live[key], number)
	s.waiting = append(s.waiting, number)
	return number
}

// drop lets the entries of a key that a zone includes be Gone: they stand by their key no more.
func (s *Store) drop(key string, z *dbm.Zone) []int {
	var dropped []int
	for _, i := range s.live[key] {
		if z.Includes(s.entries[i].zone) {
			s.entries[i].gone = true
			s.leave(i)
			dropped = append(dropped, i)
		}
	}
	s.live[key] = slices.DeleteFunc(s.live[key], s.Gone)
	if len(s.live[key]) == 0 {
		delete(s.live, key)
	}
	return dropped
}

// leave lets an entry wait no more, if it does.
func (s *Store) leave(i int) {
	if at, waits := slices.BinarySearch(s.waiting, i); waits {
		s.waiting = slices.Delete(s.waiting, at, at+1)
	}
}

// rising walks through those that wait, what was stored first ahead.
func (s *Store) rising(yield func(int) bool) {
	for _, i := range s.waiting {
		if !yield(i) {
			return
		}
	}
}

// falling walks through them from the other end.
func (s *Store) falling(yield func(int) bool) {
	for _, i := range slices.Backward(s.waiting) {
		if !yield(i) {
			return
		}
	}
}
