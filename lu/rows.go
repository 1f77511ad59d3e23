package lu

import (
	"slices"

	"gnomon/api"
	"gnomon/succ"
)

// unheld is the number of a clock that is held against nothing.
const unheld = -1

// everywhere is the plan that has one number for each clock at each location.
func everywhere(n api.Net, number int) (api.Plan, api.Errno) {
	return succ.Uniform(n, slices.Repeat([]int{number}, len(n.Clocks)))
}

// places makes of what is asked of two elements what is asked of two lists: whether they are as long, and it is so at each place.
func places[T any](is func(a, b T) bool) func(a, b []T) bool {
	return func(a, b []T) bool { return slices.EqualFunc(a, b, is) }
}

// raise makes of what becomes of two elements what becomes of two lists that are as long, place by place: a new list.
func raise[T any](one func(a, b T) T) func(a, b []T) []T {
	return func(a, b []T) []T {
		var l []T
		for at := range a {
			l = append(l, one(a[at], b[at]))
		}
		return l
	}
}

func isAtMost(a, b int) bool { return a <= b }

func isAsLong(a, b []int) bool { return len(a) == len(b) }

func greater(a, b int) int { return max(a, b) }

// haveSameRows asks for Lo and Up apart: those of one plan may have other rows.
func haveSameRows(a, b api.Plan) bool {
	tables := places(places(isAsLong))
	return tables(a.Lo, b.Lo) && tables(a.Up, b.Up)
}

// raised is the plan with the greater numbers of two that have the same rows.
func raised(a, b api.Plan) api.Plan {
	tables := raise(raise(raise(greater)))
	return api.Plan{Lo: tables(a.Lo, b.Lo), Up: tables(a.Up, b.Up)}
}
