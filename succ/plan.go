package succ

import (
	"slices"

	"gnomon/api"
	"gnomon/check"
	"gnomon/extra"
)

// unheld is the number of a clock that is held against nothing.
const unheld = -1

// planOf is a plan with rows, or the error of the network, or of the plan.
func planOf(n api.Net, p api.Plan) (api.Plan, api.Errno) {
	if err := check.Net(n); err != api.OK {
		return api.Plan{}, err
	}
	if len(p.Lo) == 0 && len(p.Up) == 0 {
		return Uniform(n, check.Max(n))
	}
	if !isTable(n, p.Lo) || !isTable(n, p.Up) {
		return api.Plan{}, api.ErrForm
	}
	return p, api.OK
}

// isTable tells whether there are numbers that may be for each location of each automaton.
func isTable(n api.Net, table [][][]int) bool {
	if len(table) != len(n.Autos) {
		return false
	}
	isWrong := func(numbers []int) bool {
		return len(numbers) != len(n.Clocks) || slices.ContainsFunc(numbers, isOutside)
	}
	for i, a := range n.Autos {
		if len(table[i]) != len(a.Locs) || slices.ContainsFunc(table[i], isWrong) {
			return false
		}
	}
	return true
}

func isOutside(number int) bool { return number < unheld || number > api.MaxConst }

// everywhere are the same numbers for each location of each automaton, each time in a list of their own.
func everywhere(n api.Net, numbers []int) [][][]int {
	table := make([][][]int, len(n.Autos))
	for i, a := range n.Autos {
		for range a.Locs {
			table[i] = append(table[i], slices.Clone(numbers))
		}
	}
	return table
}

// saysOf is what a plan with rows says of a state.
func saysOf(p api.Plan, s api.State) Widen {
	return Widen{Lo: greatest(p.Lo, s), Up: greatest(p.Up, s)}
}

// greatest are the greatest numbers of the locations where the automata are.
func greatest(table [][][]int, s api.State) []int {
	var rows [][]int
	for auto, loc := range s.Locs {
		rows = append(rows, table[auto][loc])
	}
	return extra.Greatest(rows...)
}
