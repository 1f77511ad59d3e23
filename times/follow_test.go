package times

import (
	"math"
	"math/rand/v2"
	"slices"
	"testing"

	"gnomon/api"
	"gnomon/search"
	"gnomon/trace"
)

// eachSystem hands systems at random to a function: small and greater ones, with few and with many differences, half of them such as some fractions keep.
func eachSystem(seed uint64, many int, try func(r *rand.Rand, n int, l []api.Diff, kept bool)) {
	r := source(seed)
	for k := range many {
		n := 1 + r.IntN(2+k%9)
		kept := k%2 == 0
		try(r, n, someSystem(r, n, r.IntN(2+3*n), 1+r.IntN(4), kept), kept)
	}
}

// TestP19_1Model: Least and Greatest, held against all bounds that follow from a system.
func TestP19_1Model(t *testing.T) {
	least, most := map[bool]int{}, map[bool]int{}
	eachSystem(1, 6000, func(r *rand.Rand, n int, l []api.Diff, kept bool) {
		want, ok := wantLeast(n, l)
		if least[ok]++; ok {
			isLeast(t, n, l, want...)
		} else {
			notLeast(t, n, l, api.ErrNone)
		}
		for _, end := range []int64{int64(r.IntN(60)), 1 << 50} {
			want, ok := wantGreatest(n, l, end)
			if most[ok]++; ok {
				isGreatest(t, n, l, end, want...)
			} else {
				notGreatest(t, n, l, end, api.ErrNone)
			}
		}
	})
	if least[true] < 2000 || least[false] < 1000 || most[true] < 2000 || most[false] < 1000 {
		t.Error(least, most)
	}
}

// TestP19_1Great: bounds as great as may be, near to where a bound of 64 bits would go round.
func TestP19_1Great(t *testing.T) {
	r := source(2)
	for range 300 {
		n := 2 + r.IntN(12)
		var l []api.Diff
		for range r.IntN(3 * n) {
			l = append(l, api.Diff{I: r.IntN(n), J: r.IntN(n), Bound: api.Bound(2*api.MaxBound*(r.IntN(4)/3*2-1) + r.IntN(2))})
		}
		if want, ok := wantLeast(n, l); ok {
			isLeast(t, n, l, want...)
		} else {
			notLeast(t, n, l, api.ErrNone)
		}
	}
}

// allPoints hands all points on a grid, up to an end, to a function; the point 0 is at 0.
func allPoints(n int, end int64, try func(t []int64)) {
	points := make([]int64, n)
	var fill func(i int)
	fill = func(i int) {
		if i == n {
			try(points)
			return
		}
		for points[i] = 0; points[i] <= end; points[i]++ {
			fill(i + 1)
		}
	}
	fill(1)
}

// TestP19_4All: of all points that there are, up to an end, those that keep a small system are nowhere below Least, nor above Greatest.
func TestP19_4All(t *testing.T) {
	r := source(3)
	counts := map[bool]int{}
	for k := range 500 {
		n := 1 + k%4
		end := int64(r.IntN([]int{40, 40, 25, 14}[n-1]))
		l := someSystem(r, n, r.IntN(6), 1+r.IntN(2), k%2 == 0)
		least, _, leastErr := Least(n, l)
		most, err := Greatest(n, l, end)
		found := 0
		low, high := slices.Repeat([]int64{math.MaxInt64}, n), slices.Repeat([]int64{-1}, n)
		allPoints(n, end, func(points []int64) {
			if !keepsOnGrid(points, l) {
				return
			}
			found++
			for i, at := range points {
				low[i], high[i] = min(low[i], at), max(high[i], at)
			}
		})
		counts[found > 0]++
		if (found > 0) != (err == api.OK) || found > 0 && leastErr != api.OK {
			t.Fatal(n, textOf(l), end, found, err)
		}
		if found > 0 && (!slices.Equal(low, least) || !slices.Equal(high, most)) {
			t.Fatal(n, textOf(l), end, least, most)
		}
		if found == 0 && leastErr == api.OK && slices.Max(least) <= end {
			t.Fatal(n, textOf(l), least)
		}
	}
	if counts[true] < 100 || counts[false] < 50 {
		t.Error(counts)
	}
}

// TestP19_4Keep: Least's and Greatest's points keep the system, on the grid and as fractions, and with one of them moved by a unit towards the end that it was not to have, no more.
func TestP19_4Keep(t *testing.T) {
	moved := 0
	eachSystem(4, 3000, func(r *rand.Rand, n int, l []api.Diff, kept bool) {
		least, grid, err := Least(n, l)
		if err != api.OK {
			return
		}
		end := slices.Max(least) + int64(r.IntN(5))
		most, err := Greatest(n, l, end)
		if err != api.OK {
			t.Fatal(textOf(l), least, err)
		}
		for _, points := range [][]int64{least, most} {
			if !keepsOnGrid(points, l) || !Keeps(points, grid, l) {
				t.Fatal(textOf(l), points)
			}
		}
		for i := range n {
			if least[i] > most[i] || most[i] > end {
				t.Fatal(textOf(l), least, most)
			}
			if least[i] > 0 {
				moved++
				if least[i]--; keepsOnGrid(least, l) {
					t.Fatal(textOf(l), least, i)
				}
				least[i]++
			}
			if i > 0 && most[i] < end {
				moved++
				if most[i]++; keepsOnGrid(most, l) {
					t.Fatal(textOf(l), most, i)
				}
				most[i]--
			}
		}
	})
	if moved < 2000 {
		t.Error(moved)
	}
}

// TestP19_3Grid (E9): if any fractions keep a system, points on the grid do; and where they do, fractions do.
func TestP19_3Grid(t *testing.T) {
	counts := map[bool]int{}
	eachSystem(5, 6000, func(r *rand.Rand, n int, l []api.Diff, kept bool) {
		_, _, err := Least(n, l)
		is := hasFractions(n, l)
		if kept && !is || is != (err == api.OK) || !is && err != api.ErrNone {
			t.Fatal(n, textOf(l), kept, is, err)
		}
		counts[is]++
	})
	if counts[true] < 2000 || counts[false] < 1000 {
		t.Error(counts)
	}
	// Of circles through all points, each by less than: the grid is just fine enough.
	for n := 1; n <= 40; n++ {
		var l []api.Diff
		for i := range n {
			l = append(l, api.Diff{I: i, J: (i + 1) % n})
		}
		notLeast(t, n, l, api.ErrNone)
		l[n-1].Bound = 2
		points, _, err := Least(n, l)
		if err != api.OK || !keepsOnGrid(points, l) {
			t.Fatal(n, points, err)
		}
	}
}

// TestP19_5Less: the least points of less differences are nowhere greater.
func TestP19_5Less(t *testing.T) {
	less := 0
	eachSystem(6, 3000, func(r *rand.Rand, n int, l []api.Diff, kept bool) {
		all, _, err := Least(n, l)
		if err != api.OK {
			return
		}
		for len(l) > 0 {
			at := r.IntN(len(l))
			l = slices.Delete(l, at, at+1)
			fewer, _, err := Least(n, l)
			if err != api.OK {
				t.Fatal(textOf(l), err)
			}
			for i := range n {
				if fewer[i] > all[i] {
					t.Fatal(textOf(l), fewer, all)
				}
				if fewer[i] < all[i] {
					less++
				}
			}
			all = fewer
		}
		if slices.Max(all) != 0 {
			t.Fatal(all)
		}
	})
	if less < 1000 {
		t.Error(less)
	}
}

// TestP19_1Order: the order of differences does not matter.
func TestP19_1Order(t *testing.T) {
	eachSystem(7, 2000, func(r *rand.Rand, n int, l []api.Diff, kept bool) {
		want, _, wantErr := Least(n, l)
		most, mostErr := Greatest(n, l, 50)
		r.Shuffle(len(l), func(i, j int) { l[i], l[j] = l[j], l[i] })
		l = append(l, l[:len(l)/2]...)
		if got, _, err := Least(n, l); !slices.Equal(got, want) || err != wantErr {
			t.Fatal(got, want, err)
		}
		if got, err := Greatest(n, l, 50); !slices.Equal(got, most) || err != mostErr {
			t.Fatal(got, most, err)
		}
	})
}

// eachWay hands ways of networks at random, and parts, to a function.
func eachWay(seed uint64, many, most int, try func(r *rand.Rand, n api.Net, way []api.Move, g api.Part)) {
	r := source(seed)
	for k := range many {
		n := someNet(r, k%5, 4)
		way := someWay(r, n, most)
		try(r, n, way, somePart(r, n, lastState(n, way), 5))
	}
}

// TestP19_2Model: the differences of ways, held against the words.
func TestP19_2Model(t *testing.T) {
	counts := map[api.Errno]int{}
	eachWay(8, 1500, 9, func(r *rand.Rand, n api.Net, way []api.Move, g api.Part) {
		c := begin(n)
		c.s = lastState(n, way)
		bare := api.Part{Locs: g.Locs, Test: g.Test}
		if c.meets(bare) {
			isDiffs(t, textOf(wantDiffs(n, way, g)))(OfMoves(n, way, g))
			counts[api.OK]++
		} else {
			fails(t, n, way, g, api.ErrGoal)
			counts[api.ErrGoal]++
		}
	})
	if counts[api.OK] < 500 || counts[api.ErrGoal] < 50 {
		t.Error(counts)
	}
}

// TestP19_6Runs (E4): Run's run is one that can be done and reaches the part; if Run says ErrNone, none can: so say the zones of the way. P19.7: its delays have denominators of at most k + 2.
func TestP19_6Runs(t *testing.T) {
	counts := map[api.Errno]int{}
	fractions, longest := 0, 0
	eachWay(9, 3000, 9, func(r *rand.Rand, n api.Net, way []api.Move, g api.Part) {
		run, err := Run(n, way, g)
		counts[err]++
		meets, wrong := trace.Meets(n, api.Goal{g}, way...)
		if wrong != api.OK || (meets == 0) != (err == api.OK) {
			t.Fatal(n, way, g, meets, err)
		}
		if err != api.OK {
			if run.Steps != nil || run.Last != (api.Rat{}) || err != api.ErrNone && err != api.ErrGoal {
				t.Fatal(run, err)
			}
			return
		}
		if !replays(n, run, g) || len(run.Steps) != len(way) {
			t.Fatal(n, way, g, run)
		}
		longest = max(longest, len(way))
		dens := []int64{run.Last.Den}
		for i, s := range run.Steps {
			if s.Move != way[i] {
				t.Fatal(run, way)
			}
			dens = append(dens, s.Delay.Den)
		}
		if slices.Max(dens) > int64(len(way)+2) || slices.Min(dens) < 1 {
			t.Fatal(run)
		}
		if slices.Max(dens) > 1 {
			fractions++
		}
	})
	if counts[api.OK] < 500 || counts[api.ErrNone] < 300 || fractions < 100 || longest < 8 {
		t.Error(counts, fractions, longest)
	}
}

// TestP19_6Least: no run at random that can be done and reaches the part is anywhere ahead of Run's on its grid.
func TestP19_6Least(t *testing.T) {
	tried := 0
	eachWay(10, 1500, 4, func(r *rand.Rand, n api.Net, way []api.Move, g api.Part) {
		run, err := Run(n, way, g)
		grid := int64(len(way) + 2)
		for range 60 {
			other := api.Run{}
			for _, m := range way {
				other.Steps = append(other.Steps, api.Step{Delay: api.Rat{Num: int64(r.IntN(3*int(grid))) * int64(r.IntN(2)), Den: grid}, Move: m})
			}
			other.Last = api.Rat{Num: int64(r.IntN(3*int(grid))) * int64(r.IntN(2)), Den: grid}
			if !replays(n, other, g) {
				continue
			}
			tried++
			if err != api.OK {
				t.Fatal(n, way, g, other, err)
			}
			if earlier(other, run) {
				// Just runs that keep less-than bounds by a whole unit are on the grid.
				if keepsOnGrid(pointsOf(other, grid), wantDiffs(n, way, g)) {
					t.Fatal(n, way, g, other, run)
				}
			}
		}
	})
	if tried < 1000 {
		t.Error(tried)
	}
}

// pointsOf are the points of time of a run, in units of a grid.
func pointsOf(r api.Run, grid int64) []int64 {
	t := []int64{0}
	for _, s := range r.Steps {
		t = append(t, t[len(t)-1]+s.Delay.Num*grid/s.Delay.Den)
	}
	return append(t, t[len(t)-1]+r.Last.Num*grid/r.Last.Den)
}

// earlier tells whether a run is somewhere ahead of another one with the same moves.
func earlier(a, b api.Run) bool {
	grid := int64(len(a.Steps) + 2)
	l, m := pointsOf(a, grid), pointsOf(b, grid)
	for i := range l {
		if l[i] < m[i] {
			return true
		}
	}
	return false
}

// farPart is a part that holds of the state behind some way.
func farPart(r *rand.Rand, n api.Net) api.Part {
	p := api.Part{Guards: someGuards(r, len(n.Clocks), 6)}
	for i, l := range lastState(n, someWay(r, n, 8)).Locs {
		p.Locs = append(p.Locs, api.At{Auto: i, Loc: l})
	}
	return p
}

// TestP19_6Search (E4): of a search that has found its goal the way to that node, and the part, have a run.
func TestP19_6Search(t *testing.T) {
	r := source(11)
	found, longest := 0, 0
	for k := range 500 {
		n := someNet(r, k%4, 4)
		g := api.Goal{farPart(r, n), farPart(r, n)}
		s, err := search.New(n, g, api.Plan{}, k%2 == 0)
		if err != api.OK {
			t.Fatal(err)
		}
		s.Go(60)
		node, part := s.Found()
		if node < 0 {
			continue
		}
		way, _ := trace.Of(s.Nodes(), node)
		run, err := Run(n, way, g[part])
		if err != api.OK || !replays(n, run, g[part]) {
			t.Fatal(n, g, way, run, err)
		}
		found++
		longest = max(longest, len(way))
	}
	if found < 100 || longest < 3 {
		t.Error(found, longest)
	}
}

// TestP19_7Fine: a way of k moves, each of which must be later than that ahead of it and all of them ahead of 1, needs the whole grid.
func TestP19_7Fine(t *testing.T) {
	n := said(t, "clock x, y; auto A { loc a inv y < 1; edge a -> a when x > 0 do x := 0; }")
	for k := range 30 {
		run, err := Run(n, make([]api.Move, k), aim(t, n, "x > 0"))
		if err != api.OK || !replays(n, run, api.Part{}) {
			t.Fatal(k, err)
		}
		for _, s := range run.Steps {
			if s.Delay != (api.Rat{Num: 1, Den: int64(k + 2)}) {
				t.Fatal(k, run)
			}
		}
		if run.Last != (api.Rat{Num: 1, Den: int64(k + 2)}) {
			t.Fatal(k, run)
		}
	}
}
