package decimal

import (
	"math"
	"strconv"
	"testing"
)

func TestRead(t *testing.T) {
	for _, n := range []int64{math.MinInt64, math.MinInt64 + 1, -100, -10, -9, -1, 0, 1, 9, 10, 100, math.MaxInt64 - 1, math.MaxInt64} {
		if got, ok := Read(strconv.FormatInt(n, 10)); got != n || !ok {
			t.Error(n, got, ok)
		}
	}
}

func TestReadWrong(t *testing.T) {
	for _, s := range []string{
		"", "-", "+", "+1", "+0", "-0", "00", "01", "-01", "--1", "1-", " 1", "1 ", "1\n", "\x001", "1_000", "0x1", "0b1", "1e1", "1.0", "a", "\u0663", "-\u0663",
		"9223372036854775808", "-9223372036854775809", "18446744073709551617", "99999999999999999999999999999999",
	} {
		if n, ok := Read(s); n != 0 || ok {
			t.Errorf("%q: %d", s, n)
		}
	}
}
