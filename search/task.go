package search

import (
	"slices"

	"gnomon/api"
	"gnomon/check"
	"gnomon/net"
	"gnomon/succ"
)

// task is what is looked for, where, and how zones are made wider.
type task struct {
	net  api.Net
	goal api.Goal
	plan api.Plan
}

// taskOf has lists of its own, as what was handed in may change while the search is under way.
func taskOf(n api.Net, g api.Goal, p api.Plan) task {
	return task{net.Copy(n), net.CopyGoal(g), planOf(n, g, p)}
}

// planOf is a plan with rows. Without rows succ would leave the goal's numbers out of it.
func planOf(n api.Net, g api.Goal, p api.Plan) api.Plan {
	if len(p.Lo) == 0 && len(p.Up) == 0 {
		// No error: such are the numbers of a right network and goal.
		uniform, _ := succ.Uniform(n, check.Max(n, g))
		return uniform
	}
	return api.Plan{Lo: copyTable(p.Lo), Up: copyTable(p.Up)}
}

func copyTable(table [][][]int) [][][]int {
	var l [][][]int
	for _, rows := range table {
		var own [][]int
		for _, numbers := range rows {
			own = append(own, slices.Clone(numbers))
		}
		l = append(l, own)
	}
	return l
}

// met is the first part of the goal that meets a node.
func (t *task) met(d Node) int {
	return slices.IndexFunc(t.goal, func(p api.Part) bool {
		z, err := succ.Meets(t.net, d.State, d.Zone, p)
		return err == api.OK && !z.Empty()
	})
}
