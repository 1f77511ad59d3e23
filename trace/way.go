package trace

import (
	"slices"
	"strings"

	"gnomon/api"
	"gnomon/check"
	"gnomon/dbm"
	"gnomon/moves"
	"gnomon/ops"
	"gnomon/state"
	"gnomon/succ"
)

// wrong is the error of a network, or of a way that is too long.
func wrong(n api.Net, way ...api.Move) api.Errno {
	if err := check.Net(n); err != api.OK {
		return err
	}
	if len(way) > api.MaxZones {
		return api.ErrLong
	}
	return api.OK
}

// turned is a way from its other end on.
func turned(way []api.Move) []api.Move {
	l := make([]api.Move, len(way))
	copy(l, way)
	slices.Reverse(l)
	return l
}

// course is the states and the zones of a way. All states are looked at ahead of all zones: a move that is not open counts ahead of a bound that is passed.
func course(n api.Net, way ...api.Move) ([]api.State, []*dbm.Zone, api.Errno) {
	states, err := States(n, way...)
	if err != api.OK {
		return nil, nil, err
	}
	z, err := first(n, states[0])
	if err != api.OK {
		return nil, nil, err
	}
	zones := []*dbm.Zone{z}
	for i, m := range way {
		if z, err = behind(n, states[i], z, m); err != api.OK {
			return nil, nil, err
		}
		zones = append(zones, z)
	}
	return states, zones, api.OK
}

// first is the zone with which all ways begin; of a right network, whose first state is handed in.
func first(n api.Net, s api.State) (*dbm.Zone, api.Errno) {
	zero, _ := dbm.Zero(len(n.Clocks))
	guards, _ := state.Invariants(n, s)
	z, err := ops.Guards(zero, guards...)
	if err != api.OK {
		return nil, err
	}
	return succ.Wait(n, s, z)
}

// behind is the zone behind a move, waited.
func behind(n api.Net, s api.State, z *dbm.Zone, m api.Move) (*dbm.Zone, api.Errno) {
	next, z, err := succ.Exactly(n, s, z, m)
	if err != api.OK {
		return nil, err
	}
	return succ.Wait(n, next, z)
}

// readLine is the move of a line with its line feed; false: it is no such line.
func readLine(n api.Net, line string) (api.Move, bool) {
	text, ended := strings.CutSuffix(line, feed)
	l, err := moves.Parse(n, text)
	// The text of no move, or of several, is none of one.
	if !ended || err != api.OK || len(l) != 1 {
		return api.Move{}, false
	}
	return l[0], true
}
