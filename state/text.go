package state

import (
	"slices"
	"strconv"
	"strings"

	"gnomon/api"
	"gnomon/decimal"
)

// Signs of a state's text.
const (
	dot       = "."
	equals    = "="
	comma     = ","
	semicolon = ";"
)

func locText(a api.Auto, l int) string { return a.Name + dot + a.Locs[l].Name }

func varText(v api.Variable, k int) string { return v.Name + equals + strconv.Itoa(k) }

// readRow is what the pieces of a text say of the things of a row, one by one; false: it is not the text of such a row.
func readRow[A any](row []A, text string, read func(A, string) (int, bool)) ([]int, bool) {
	// The text of nothing is cut into one piece, not into none.
	if text == "" {
		return nil, len(row) == 0
	}
	var list []int
	for piece := range strings.SplitSeq(text, comma) {
		if len(list) == len(row) {
			return nil, false
		}
		k, ok := read(row[len(list)], piece)
		if !ok {
			return nil, false
		}
		list = append(list, k)
	}
	return list, len(list) == len(row)
}

// readLoc is the location of an automaton that a piece names.
func readLoc(a api.Auto, piece string) (int, bool) {
	name, ok := strings.CutPrefix(piece, a.Name+dot)
	l := slices.IndexFunc(a.Locs, func(l api.Loc) bool { return l.Name == name })
	return l, ok && l >= 0
}

// readVar is the value of a variable that a piece says.
func readVar(v api.Variable, piece string) (int, bool) {
	digits, ok := strings.CutPrefix(piece, v.Name+equals)
	k, isNumber := decimal.Read(digits)
	return int(k), ok && isNumber && mayHold(v, int(k))
}
