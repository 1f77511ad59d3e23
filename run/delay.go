package run

import (
	"slices"

	"gnomon/api"
	"gnomon/rat"
)

// delays are all delays of a run, its Last too.
func delays(r api.Run) []api.Rat {
	l := make([]api.Rat, 0, len(r.Steps)+1)
	for _, s := range r.Steps {
		l = append(l, s.Delay)
	}
	return append(l, r.Last)
}

func isNoDelay(d api.Rat) bool { return !rat.Right(d) || d.Num < 0 }

// areTimes tells whether all are right, and none is below that ahead of it.
func areTimes(l ...api.Rat) bool {
	ahead := rat.Of(0)
	for _, t := range l {
		if !rat.Right(t) || rat.Compare(t, ahead) < 0 {
			return false
		}
		ahead = t
	}
	return true
}

// gaps are the delays between times, from 0 on.
func gaps(l ...api.Rat) ([]api.Rat, api.Errno) {
	between := make([]api.Rat, len(l))
	ahead := rat.Of(0)
	for i, t := range l {
		d, err := rat.Sub(t, ahead)
		if err != api.OK {
			return nil, err
		}
		between[i], ahead = d, t
	}
	return between, api.OK
}

func copied(r api.Run) api.Run { return api.Run{Steps: slices.Clone(r.Steps), Last: r.Last} }

// lead is the delay with which a run begins.
func lead(r api.Run) api.Rat {
	if len(r.Steps) == 0 {
		return r.Last
	}
	return r.Steps[0].Delay
}

// canJoin tells whether all that must be added, where a run goes on by another one, is right. It is asked of all of them ahead of each sum, as what is not right counts ahead of what can't be held.
func canJoin(r api.Run, l ...api.Run) bool {
	for _, next := range l {
		if !rat.Right(r.Last) || !rat.Right(lead(next)) {
			return false
		}
		r = next
	}
	return true
}

// joined is a run that goes on by another one, whose lead is another one, too; the steps of the first are the caller's to give away.
func joined(r, next api.Run, first api.Rat) api.Run {
	if len(next.Steps) == 0 {
		return api.Run{Steps: r.Steps, Last: first}
	}
	steps := append(r.Steps, next.Steps...)
	steps[len(r.Steps)].Delay = first
	return api.Run{Steps: steps, Last: next.Last}
}
