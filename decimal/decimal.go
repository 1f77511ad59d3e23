// Package decimal reads whole numbers in the one form that they are written in.
package decimal

import "strconv"

// Read is the number with that text; false: there is none that 64 bits can hold.
func Read(s string) (int64, bool) {
	n, err := strconv.ParseInt(s, 10, 64)
	// Noughts ahead, a plus and a minus of 0 are taken by the library: writing the number again finds them.
	if err != nil || strconv.FormatInt(n, 10) != s {
		return 0, false
	}
	return n, true
}
