// Package plans is the plans that a question may name by a number.
package plans

import (
	"gnomon/active"
	"gnomon/api"
	"gnomon/check"
	"gnomon/lu"
)

// Numbers of plans.
const (
	None = iota
	LU
	Active
)

// Of is the plan of a number, of a network and a goal; what is wrong with these is told ahead of a number that is none.
func Of(number int, n api.Net, g api.Goal) (api.Plan, api.Errno) {
	if err := check.Goal(n, g); err != api.OK {
		return api.Plan{}, err
	}
	switch number {
	case None:
		return api.Plan{}, api.OK
	case LU:
		return lu.Plan(n, g)
	case Active:
		return active.Plan(n, g)
	}
	return api.Plan{}, api.ErrForm
}
