package times

import (
	"slices"

	"gnomon/api"
	"gnomon/bound"
)

// latest is the latest point of time that may be handed in.
const latest = 1 << 50

func isOutside(t int64) bool { return t < 0 || t > latest }

// wrong is the error of a system of n points.
func wrong(n int, l ...api.Diff) api.Errno {
	if n < 1 || n > api.MaxTimes {
		return api.ErrRange
	}
	if slices.ContainsFunc(l, func(d api.Diff) bool { return !isOf(n, d) }) {
		return api.ErrForm
	}
	return api.OK
}

// isOf tells whether a difference is one of n points.
func isOf(n int, d api.Diff) bool {
	return 0 <= d.I && d.I < n && 0 <= d.J && d.J < n && bound.Right(d.Bound)
}

// turned are the differences of the same points, when time is gone through backwards.
func turned(l ...api.Diff) []api.Diff {
	back := make([]api.Diff, len(l))
	for i, d := range l {
		back[i] = api.Diff{I: d.J, J: d.I, Bound: d.Bound}
	}
	return back
}

// point is a point of time, in units of a grid: where it is by now, and up to where it may be raised.
type point struct {
	at, top int64
}

// lift says that a point is later than another one by at least so many units.
type lift struct {
	from, to int
	by       int64
}

// lifts are what differences ask for: of two points one alone, the strictest, as many guards may bound the same two.
func lifts(grid int64, l ...api.Diff) []lift {
	var strict []lift
	places := map[[2]int]int{}
	for _, d := range l {
		v, reached, some := bound.Value(d.Bound)
		if !some {
			continue
		}
		by := -int64(v) * grid
		if !reached {
			by++
		}
		pair := [2]int{d.I, d.J}
		i, known := places[pair]
		if !known {
			i = len(strict)
			places[pair] = i
			strict = append(strict, lift{d.I, d.J, by})
		}
		strict[i].by = max(strict[i].by, by)
	}
	return strict
}

// farthest is how far a point can be raised by lifts, one behind the other, that come by no point twice. Who is raised farther is raised again and again.
func farthest(grid int64) int64 { return (grid - 1) * (api.MaxBound*grid + 1) }

// raise raises points as little as lifts ask for, till nothing moves; false: one would pass its top, or they never come to rest.
func raise(points []point, l ...lift) bool {
again:
	// What comes to rest does so by lifts that come by no point twice: behind as many rounds as there are points nothing moves any more.
	for range points {
		moved := false
		for _, x := range l {
			least, p := points[x.from].at+x.by, &points[x.to]
			switch {
			case least > p.top:
				break again
			case least > p.at:
				p.at, moved = least, true
			}
		}
		if !moved {
			return true
		}
		// From the other end a row of lifts that stands the wrong way round is gone through at once.
		slices.Reverse(l)
	}
	return false
}
