package region

import (
	"fmt"
	"math/big"
	"math/rand/v2"
	"slices"
	"testing"

	"gnomon/api"
	"gnomon/check"
	"gnomon/point"
	"gnomon/search"
)

// someValuation is one whose clocks are at, near and above their constants, with fractions that are often the same.
func someValuation(r *rand.Rand, most []int) exact {
	dens := []int64{1, 2, 3, 3, 4, 7}
	var v exact
	for _, m := range most {
		den := dens[r.IntN(len(dens))]
		v = append(v, big.NewRat(r.Int64N(int64(top(m)+2)*den+1), den))
	}
	return v
}

// someConstants are those of few clocks, mostly small.
func someConstants(r *rand.Rand) []int {
	var l []int
	for range r.IntN(7) {
		l = append(l, r.IntN(6)-1)
	}
	if r.IntN(8) == 0 && len(l) > 0 {
		l[r.IntN(len(l))] = api.MaxConst - r.IntN(2)
	}
	return l
}

// eachValuation hands valuations at random to a function.
func eachValuation(seed uint64, many int, try func(r *rand.Rand, most []int, v exact)) {
	r := source(seed)
	for range many {
		most := someConstants(r)
		try(r, most, someValuation(r, most))
	}
}

// TestP23_1All: all regions of small constants are taken, and no others; and all calls answer by the words.
func TestP23_1All(t *testing.T) {
	for _, most := range tables() {
		right, wrong := map[string]bool{}, 0
		eachRegion(most, func(r Region) {
			if !isRight(r, most) {
				wrong++
				isErr(t, api.ErrForm)(Later(r, most))
				isErr(t, api.ErrForm)(Reset(r, most, 1, 0))
				isHeld(t, false, api.ErrForm)(Holds(r, most, api.Guard{Clock: 1, Cmp: api.Le}))
				isNoPoint(t, api.ErrForm)(Point(r, most))
				return
			}
			right[textOf(r)] = true
			allOf(t, r, most)
			if t.Failed() {
				t.Fatal(r, most)
			}
		})
		if t.Failed() {
			t.Fatal(most)
		}
		// They are those of all valuations on a grid that tells them apart.
		seen := map[string]bool{}
		eachGrid(most, int64(len(most)+1), func(v exact) { seen[textOf(wantOf(v, most))] = true })
		if len(seen) != len(right) || wrong < len(most) {
			t.Error(most, len(seen), len(right), wrong)
		}
	}
}

// eachGrid hands all valuations up to above the constants, in parts of 1/den, to a function.
func eachGrid(most []int, den int64, try func(v exact)) {
	v := make(exact, len(most))
	var fill func(i int)
	fill = func(i int) {
		if i == len(most) {
			try(v)
			return
		}
		for k := range int64(top(most[i]))*den + 2 {
			v[i] = big.NewRat(k, den)
			fill(i + 1)
		}
	}
	fill(0)
}

// allOf holds all calls of a right region to what becomes of its point.
func allOf(t testing.TB, r Region, most []int) {
	t.Helper()
	v := wantPoint(r, most)
	at, err := Point(r, most)
	if err != api.OK || !slices.Equal(at, v.rats()) {
		t.Error(at, err, v)
	}
	is(t, textOf(wantOf(v.next(most), most)))(Later(r, most))
	for i, m := range most {
		for n := range top(m) + 3 {
			is(t, textOf(wantOf(v.set(i+1, n), most)))(Reset(r, most, i+1, n))
			for c := api.Lt; c <= api.Gt; c++ {
				g := api.Guard{Clock: i + 1, Cmp: c, N: n}
				if n > top(m) {
					isHeld(t, false, api.ErrRange)(Holds(r, most, g))
					continue
				}
				isHeld(t, v.holds(g), api.OK)(Holds(r, most, g))
			}
		}
	}
}

// TestP23_1OfModel: regions of valuations at random, by the words over exact numbers.
func TestP23_1OfModel(t *testing.T) {
	above, ranks := 0, map[int]int{}
	eachValuation(2, 20000, func(r *rand.Rand, most []int, v exact) {
		want := wantOf(v, most)
		if is(t, textOf(want))(Of(v.rats(), most)); t.Failed() {
			t.Fatal(v, most)
		}
		for i, rank := range want.Rank {
			if ranks[rank]++; v.isAbove(most, i) {
				above++
			}
		}
	})
	if above < 1000 || ranks[0] < 1000 || ranks[1] < 1000 || ranks[3] < 200 {
		t.Error(above, ranks)
	}
}

// TestP23_3Point: Of Point is the region.
func TestP23_3Point(t *testing.T) {
	for _, most := range tables() {
		eachRegion(most, func(r Region) {
			if v, err := Point(r, most); err == api.OK {
				is(t, textOf(r))(Of(v, most))
			}
		})
	}
	eachValuation(3, 5000, func(r *rand.Rand, most []int, v exact) {
		x, _ := Of(v.rats(), most)
		at, err := Point(x, most)
		if err != api.OK {
			t.Fatal(x, most, err)
		}
		is(t, textOf(x))(Of(at, most))
	})
	if t.Failed() {
		t.FailNow()
	}
}

// TestP23_4Later: from a valuation on, as time passes, the regions are those of Later, each of them, one behind the other.
func TestP23_4Later(t *testing.T) {
	longest := 0
	eachValuation(4, 1500, func(r *rand.Rand, most []int, v exact) {
		if slices.ContainsFunc(most, func(m int) bool { return m > 9 }) {
			return
		}
		at := v.rats()
		x, err := Of(at, most)
		if err != api.OK {
			t.Fatal(v, most, err)
		}
		steps := 0
		for _, d := range delays(v, most) {
			later, err := point.Wait(at, api.Rat{Num: d.Num().Int64(), Den: d.Denom().Int64()})
			if err != api.OK {
				t.Fatal(v, d, err)
			}
			now, err := Of(later, most)
			if err != api.OK {
				t.Fatal(later, most, err)
			}
			if textOf(now) == textOf(x) {
				continue
			}
			next, err := Later(x, most)
			if is(t, textOf(now))(next, err); t.Failed() {
				t.Fatal(v, most, d, x)
			}
			x = next
			steps++
		}
		// Behind all of them it stays.
		is(t, textOf(x))(Later(x, most))
		for i, m := range most {
			if x.Whole[i] != top(m)+1 {
				t.Fatal(v, most, x)
			}
		}
		longest = max(longest, steps)
	})
	if longest < 20 {
		t.Error(longest)
	}
}

// delays are all at which a clock comes to a whole number up to its constant, those between two of them, and some behind; rising.
func delays(v exact, most []int) []*big.Rat {
	l := []*big.Rat{new(big.Rat)}
	for i, m := range most {
		for k := range top(m) + 1 {
			if d := new(big.Rat).Sub(whole(k), v[i]); d.Sign() > 0 {
				l = append(l, d)
			}
		}
	}
	slices.SortFunc(l, (*big.Rat).Cmp)
	last := l[len(l)-1]
	l = append(l, new(big.Rat).Add(last, big.NewRat(1, 99)), new(big.Rat).Add(last, whole(1)))
	for i := range l[:len(l)-2] {
		sum := new(big.Rat).Add(l[i], l[i+1])
		l = append(l, sum.Mul(sum, big.NewRat(1, 2)))
	}
	slices.SortFunc(l, (*big.Rat).Cmp)
	return l
}

// alike is another valuation of a region: other fractions in the same order, other numbers above the constants.
func alike(r *rand.Rand, x Region, most []int) exact {
	parts := []*big.Rat{new(big.Rat)}
	for range slices.Max(append([]int{0}, x.Rank...)) {
		// Somewhere above the last one, and below 1.
		left := new(big.Rat).Sub(whole(1), parts[len(parts)-1])
		step := left.Mul(left, big.NewRat(1+r.Int64N(5), 7))
		parts = append(parts, step.Add(step, parts[len(parts)-1]))
	}
	var v exact
	for i, m := range most {
		if x.Whole[i] > top(m) {
			v = append(v, new(big.Rat).Add(whole(top(m)), big.NewRat(1+r.Int64N(30), 1+r.Int64N(7))))
			continue
		}
		v = append(v, new(big.Rat).Add(whole(x.Whole[i]), parts[x.Rank[i]]))
	}
	return v
}

// TestP23_5Guards: a guard holds of all valuations of a region, or of none, as Holds says.
func TestP23_5Guards(t *testing.T) {
	counts := map[bool]int{}
	eachValuation(5, 6000, func(r *rand.Rand, most []int, v exact) {
		x, _ := Of(v.rats(), most)
		if len(most) == 0 {
			return
		}
		other := alike(r, x, most)
		is(t, textOf(x))(Of(other.rats(), most))
		for range 8 {
			clock := r.IntN(len(most))
			near := x.Whole[clock] + r.IntN(3) - 1
			g := api.Guard{Clock: clock + 1, Cmp: api.Cmp(1 + r.IntN(5)), N: max(0, min(near, top(most[clock])))}
			held, err := Holds(x, most, g)
			if err != api.OK || held != v.holds(g) || held != other.holds(g) {
				t.Fatal(v, other, most, g, held, err)
			}
			counts[held]++
			// So it is behind a set, and in the next region.
			n := r.IntN(top(most[clock]) + 3)
			set, _ := Reset(x, most, clock+1, min(n, api.MaxConst))
			is(t, textOf(set))(Of(other.set(clock+1, min(n, api.MaxConst)).rats(), most))
			next, _ := Later(x, most)
			is(t, textOf(next))(Of(other.next(most).rats(), most))
		}
		if t.Failed() {
			t.Fatal(v, other, most)
		}
	})
	if counts[true] < 1000 || counts[false] < 1000 {
		t.Error(counts)
	}
}

// eachNet hands networks at random, and goals of them, to a function.
func eachNet(seed uint64, many int, try func(r *rand.Rand, n api.Net, g api.Goal)) {
	r := source(seed)
	for k := range many {
		n := someNet(r, k%4, 3)
		g := someGoal(r, n, 4)
		if err := check.Goal(n, g); err != api.OK {
			panic(err)
		}
		try(r, n, g)
	}
}

// TestP23_2Model: Reach by the words over valuations: the verdict, and how many were looked at.
func TestP23_2Model(t *testing.T) {
	counts, most := map[api.Verdict]int{}, 0
	eachNet(6, 300, func(r *rand.Rand, n api.Net, g api.Goal) {
		v, looked, err := wantReach(n, g)
		if isTold(t, v, looked, err)(Reach(n, g)); t.Failed() {
			t.Fatal(n, g)
		}
		counts[v]++
		most = max(most, looked)
	})
	if counts[api.Reachable] < 60 || counts[api.Unreachable] < 100 || most < 1000 {
		t.Error(counts, most)
	}
}

// TestP23_6Search (E6): Reach and a search that ends say the same, whichever is looked at first.
func TestP23_6Search(t *testing.T) {
	counts, full := map[api.Verdict]int{}, 0
	eachNet(7, 1200, func(r *rand.Rand, n api.Net, g api.Goal) {
		v, looked, err := Reach(n, g)
		if err == api.ErrFull {
			full++
			return
		}
		if err != api.OK || looked > api.MaxRegions || v == api.Unknown {
			t.Fatal(n, g, v, looked, err)
		}
		s, _ := search.New(n, g, api.Plan{}, r.IntN(2) == 0)
		if want, no := s.Go(api.MaxZones + 1); no == api.OK && want != v {
			t.Fatal(n, g, v, want)
		}
		counts[v]++
	})
	if counts[api.Reachable] < 300 || counts[api.Unreachable] < 300 || full > 100 {
		t.Error(counts, full)
	}
}

// fischer is Fischer's protocol of two: who has written its number last, and waits for more than the other may take to write its own, goes in.
const fischer = `clock x, y; int id in 0 .. 2 := 0;
	auto P { loc idle; loc try inv x <= 2; loc wait; loc crit;
		edge idle -> try when id == 0 do x := 0; edge try -> wait do x := 0, id := 1; edge wait -> crit when x %[1]s && id == 1; edge wait -> try when id == 0 do x := 0; edge crit -> idle do id := 0; }
	auto Q { loc idle; loc try inv y <= 2; loc wait; loc crit;
		edge idle -> try when id == 0 do y := 0; edge try -> wait do y := 0, id := 2; edge wait -> crit when y %[1]s && id == 2; edge wait -> try when id == 0 do y := 0; edge crit -> idle do id := 0; }`

// TestE6Fischer: both are in at once just if the time to wait is not above the time to write.
func TestE6Fischer(t *testing.T) {
	for wait, want := range map[string]api.Verdict{"> 2": api.Unreachable, ">= 3": api.Unreachable, "== 3": api.Unreachable, ">= 2": api.Reachable, "> 1": api.Reachable, ">= 0": api.Reachable} {
		n := said(t, fmt.Sprintf(fischer, wait))
		g := aim(t, n, "P.crit && Q.crit")
		v, looked, err := Reach(n, g)
		isTold(t, want, looked, api.OK)(v, looked, err)
		s, _ := search.New(n, g, api.Plan{}, false)
		if told, _ := s.Go(api.MaxZones + 1); told != v {
			t.Error(wait, told, v)
		}
	}
}
