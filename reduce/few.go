package reduce

import (
	"slices"

	"gnomon/api"
	"gnomon/bound"
	"gnomon/dbm"
)

// few are the few bounds of a zone that is not empty.
func few(z *dbm.Zone) []api.Limit {
	// In the class of 0 those that are 0 come first, as the way from 0 to them holds anyway; in no other class is one of them.
	zerosFirst := func(a, b int) int {
		switch {
		case isZero(z, a) == isZero(z, b):
			return 0
		case isZero(z, a):
			return -1
		}
		return 1
	}
	rows := classes(z)
	var l []api.Limit
	for _, row := range rows {
		l = append(l, circle(z, row, zerosFirst)...)
	}
	return append(l, between(z, rows)...)
}

// isZero asks for one cell alone, as no clock is below 0.
func isZero(z *dbm.Zone, clock int) bool { return cell(z, clock, 0) <= atMostZero }

// circle are the bounds that hold a class together: once round its clocks, in the order that a function gives them; where it says nothing they keep theirs.
func circle(z *dbm.Zone, row []int, order func(a, b int) int) []api.Limit {
	round := slices.Clone(row)
	slices.SortStableFunc(round, order)
	var l []api.Limit
	for at, a := range round {
		next := round[(at+1)%len(round)]
		if a != next && !holdsAnyway(z, a, next) {
			l = append(l, limit(z, a, next))
		}
	}
	return l
}

// holdsAnyway tells whether a bound says no more than that a clock is not below 0.
func holdsAnyway(z *dbm.Zone, i, j int) bool { return i == 0 && cell(z, i, j) == atMostZero }

func limit(z *dbm.Zone, i, j int) api.Limit { return api.Limit{I: i, J: j, Bound: cell(z, i, j)} }

// between are the bounds between heads of classes that no others make.
func between(z *dbm.Zone, rows [][]int) []api.Limit {
	var l []api.Limit
	for _, from := range rows {
		for _, to := range rows {
			i, j := from[0], to[0]
			fromZero := func(clock int) bool { return holdsAnyway(z, i, clock) }
			if i == j || cell(z, i, j) == api.Inf || slices.ContainsFunc(to, fromZero) || isSum(z, rows, i, j) {
				continue
			}
			l = append(l, limit(z, i, j))
		}
	}
	return l
}

// isSum tells whether the bounds by way of some other head make that of two heads, or a stricter one. A sum that may not be is above all cells, as a zone's closed cells are at most the sums.
func isSum(z *dbm.Zone, rows [][]int, i, j int) bool {
	return slices.ContainsFunc(rows, func(row []int) bool {
		k := row[0]
		if k == i || k == j {
			return false
		}
		sum, err := bound.Add(cell(z, i, k), cell(z, k, j))
		return err == api.OK && cell(z, i, j) >= sum
	})
}
