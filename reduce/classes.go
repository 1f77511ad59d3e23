package reduce

import (
	"maps"
	"slices"

	"gnomon/api"
	"gnomon/bound"
	"gnomon/dbm"
)

// atMostZero is what 0, less each clock, keeps anyway.
const atMostZero api.Bound = 1

// cell asks for no error, as it is asked for clocks of the zone alone.
func cell(z *dbm.Zone, i, j int) api.Bound {
	b, _ := z.Cell(i, j)
	return b
}

// hang tells whether two clocks hang together in a zone that is not empty. There no such sum is below at most 0: so one that may not be is above it.
func hang(z *dbm.Zone, i, j int) bool {
	sum, err := bound.Add(cell(z, i, j), cell(z, j, i))
	return err == api.OK && sum <= atMostZero
}

// classes are those of a zone that is not empty. At first each clock is the head of a row of its own; then the heads, from the smallest on, take those that hang together with them into their rows.
func classes(z *dbm.Zone) [][]int {
	rows := map[int][]int{}
	for i := range z.Dim() + 1 {
		rows[i] = []int{i}
	}
	for i := range z.Dim() + 1 {
		if len(rows[i]) == 0 {
			continue
		}
		for j := i + 1; j <= z.Dim(); j++ {
			if hang(z, i, j) {
				rows[i] = append(rows[i], j)
				delete(rows, j)
			}
		}
	}
	var l [][]int
	for _, head := range slices.Sorted(maps.Keys(rows)) {
		l = append(l, rows[head])
	}
	return l
}
