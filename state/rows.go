package state

import (
	"cmp"
	"iter"

	"gnomon/api"
)

// wide is how many bytes a variable has in a state's bytes.
const wide = 4

// beside goes through two rows side by side, as far as both go.
func beside[A, B any](a []A, b []B) iter.Seq2[A, B] {
	return func(yield func(A, B) bool) {
		for i := range min(len(a), len(b)) {
			if !yield(a[i], b[i]) {
				return
			}
		}
	}
}

// compareRows tells which of two rows of numbers comes first.
func compareRows[N cmp.Ordered](a, b []N) int {
	for x, y := range beside(a, b) {
		if c := cmp.Compare(x, y); c != 0 {
			return c
		}
	}
	return cmp.Compare(len(a), len(b))
}

// fits tells whether two rows are of one length, and each two things that stand side by side in them are such.
func fits[A, B any](a []A, b []B, such func(A, B) bool) bool {
	for x, y := range beside(a, b) {
		if !such(x, y) {
			return false
		}
	}
	return len(a) == len(b)
}

// isOf tells whether a state is one of a network that is right.
func isOf(n api.Net, s api.State) bool {
	return fits(n.Autos, s.Locs, hasLoc) && fits(n.Vars, s.Vars, mayHold)
}

func hasLoc(a api.Auto, l int) bool { return 0 <= l && l < len(a.Locs) }

func mayHold(v api.Variable, k int) bool { return v.Lo <= k && k <= v.Hi }

// bytesOf is a number that is not below 0, the highest byte first: so bytes have the order of their numbers.
func bytesOf(k int) []byte {
	return []byte{byte(k >> 24), byte(k >> 16), byte(k >> 8), byte(k)}
}

// numberOf is the number of such bytes.
func numberOf(b []byte) int {
	k := 0
	for _, c := range b {
		k = k<<8 | int(c)
	}
	return k
}
