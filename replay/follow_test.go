package replay

import (
	"math/big"
	"math/rand/v2"
	"slices"
	"testing"

	"gnomon/api"
	"gnomon/check"
	"gnomon/run"
	"gnomon/search"
	"gnomon/times"
	"gnomon/trace"
)

// eachConfig hands configurations at random to a function, some of them with clocks of which sums cannot be held.
func eachConfig(t *testing.T, seed uint64, many int, try func(r *rand.Rand, n api.Net, c Config, top int, great bool)) {
	r := source(seed)
	for k := range many {
		top := 1 + r.IntN(6)
		n := someNet(r, top)
		if err := check.Net(n); err != api.OK {
			t.Fatal(n, err)
		}
		for range 8 {
			great := k%4 == 3
			try(r, n, someConfig(r, n, top, great), top, great)
		}
	}
}

// same holds a configuration and its error to what they must be.
func same(t testing.TB, n api.Net, want Config, wantErr api.Errno) func(Config, api.Errno) {
	return func(c Config, err api.Errno) {
		t.Helper()
		if wantErr != api.OK {
			isErr(t, wantErr)(c, err)
		} else {
			is(t, n, textOf(n, want))(c, err)
		}
		if t.Failed() {
			t.Fatal(n)
		}
	}
}

// enough asks that each of some errors came up so often.
func enough(t testing.TB, counts map[api.Errno]int, least int, l ...api.Errno) {
	t.Helper()
	for _, err := range l {
		if counts[err] < least {
			t.Error(err, counts)
		}
	}
}

// TestP21_1Model: First, Wait and Do, held against the words over exact numbers.
func TestP21_1Model(t *testing.T) {
	firsts, waits, does := map[api.Errno]int{}, map[api.Errno]int{}, map[api.Errno]int{}
	eachConfig(t, 1, 2000, func(r *rand.Rand, n api.Net, c Config, top int, great bool) {
		want, err := wantFirst(n)
		same(t, n, want, err)(First(n))
		firsts[err]++
		d := someDelay(r, top, great)
		want, err = wantWait(n, c, d)
		same(t, n, want, err)(Wait(n, c, d))
		waits[err]++
		m := someMove(r, n, c)
		want, err = wantDo(n, c, m)
		same(t, n, want, err)(Do(n, c, m))
		does[err]++
	})
	enough(t, firsts, 500, api.OK, api.ErrInv)
	enough(t, waits, 500, api.OK, api.ErrDelay, api.ErrOver, api.ErrInv)
	enough(t, does, 250, api.OK, api.ErrMove, api.ErrGuard, api.ErrInv)
}

// eachRun hands runs at random to a function.
func eachRun(seed uint64, many int, try func(r *rand.Rand, n api.Net, x api.Run, top int)) {
	r := source(seed)
	for k := range many {
		top := 1 + r.IntN(6)
		n := someNet(r, top)
		for range 4 {
			try(r, n, someRun(r, n, 7, top, k%8 == 7), top)
		}
	}
}

// TestP21_2Model: Meets, Check and All, held against the words over exact numbers.
func TestP21_2Model(t *testing.T) {
	counts, parts, lengths := map[api.Errno]int{}, map[int]int{}, map[int]int{}
	eachRun(2, 2500, func(r *rand.Rand, n api.Net, x api.Run, top int) {
		want, err, step := wantAll(n, x)
		if err != api.OK {
			isNone(t, err, step)(All(n, x))
		} else {
			var texts []string
			for _, c := range want {
				texts = append(texts, textOf(n, c))
			}
			areAll(t, n, texts...)(All(n, x))
		}
		lengths[step]++
		if len(want) == 0 {
			return
		}
		last := want[len(want)-1]
		g := someGoal(r, n, last, top)
		part := wantMeets(n, last, g)
		isPart(t, part, api.OK)(Meets(n, last, g))
		parts[part]++
		if err == api.OK && part < 0 {
			err = api.ErrGoal
		}
		isCheck(t, err, step)(Check(n, x, g))
		counts[err]++
		if t.Failed() {
			t.Fatal(n, x, g)
		}
	})
	enough(t, counts, 20, api.OK, api.ErrGoal, api.ErrDelay, api.ErrOver, api.ErrMove, api.ErrGuard, api.ErrInv)
	if parts[-1] < 500 || parts[0] < 500 || parts[1] < 100 || parts[2] < 20 || lengths[0] < 100 || lengths[7] < 100 {
		t.Error(parts, lengths)
	}
}

// wantLongest is Longest by the words, of a configuration of a right network.
func wantLongest(n api.Net, c Config) (api.Rat, bool, bool) {
	if !mayWait(n, c.State) || !keepsInvariants(n, c) {
		return api.Rat{Den: 1}, true, true
	}
	var least *big.Rat
	var kinds []api.Cmp
	for _, g := range invariantsOf(n, c.State) {
		left := new(big.Rat).Sub(big.NewRat(int64(g.N), 1), bigOf(c.Clocks[g.Clock-1]))
		if _, ok := held(left); !ok || g.Cmp == api.Ge || g.Cmp == api.Gt {
			continue
		}
		if least == nil || left.Cmp(least) < 0 {
			least, kinds = left, nil
		}
		if left.Cmp(least) == 0 {
			kinds = append(kinds, g.Cmp)
		}
	}
	if least == nil {
		return api.Rat{}, false, false
	}
	d, _ := held(least)
	return d, !slices.Contains(kinds, api.Lt), true
}

// TestP21_3Model: Longest, held against the words over exact numbers.
func TestP21_3Model(t *testing.T) {
	ever, reached, not := 0, 0, 0
	eachConfig(t, 3, 3000, func(r *rand.Rand, n api.Net, c Config, top int, great bool) {
		want, wantJust, wantSome := wantLongest(n, c)
		d, just, some := Longest(n, c)
		if d != want || just != wantJust || some != wantSome {
			t.Fatal(n, c, d, just, some, want, wantJust, wantSome)
		}
		switch {
		case !some:
			ever++
		case just:
			reached++
		default:
			not++
		}
	})
	if ever < 1000 || reached < 1000 || not < 500 {
		t.Error(ever, reached, not)
	}
}

// TestP21_4Longest: time passes as far as Longest says, and no farther.
func TestP21_4Longest(t *testing.T) {
	tried, ever := map[bool]int{}, 0
	eachConfig(t, 4, 1500, func(r *rand.Rand, n api.Net, c Config, top int, great bool) {
		if great || !keepsInvariants(n, c) {
			return
		}
		passes := func(d *big.Rat) bool {
			x, ok := held(d)
			if !ok {
				t.Fatal(d)
			}
			_, err := Wait(n, c, x)
			return err == api.OK
		}
		d, just, some := Longest(n, c)
		if !some {
			ever++
			for _, x := range []*big.Rat{big.NewRat(0, 1), big.NewRat(1, 3), big.NewRat(1<<40, 7)} {
				if !passes(x) {
					t.Fatal(n, c, x)
				}
			}
			return
		}
		tried[just]++
		for _, k := range []int64{0, 1, 5, 6, 7, 8, 14} {
			// From nothing on, over just that, to the double of it.
			x := new(big.Rat).Mul(bigOf(d), big.NewRat(k, 7))
			if want := k < 7 || d.Num == 0 || k == 7 && just; passes(x) != want {
				t.Fatal(n, c, d, just, x)
			}
			more := new(big.Rat).Add(bigOf(d), big.NewRat(1, 1+k*k*k))
			if passes(more) {
				t.Fatal(n, c, d, just, more)
			}
		}
	})
	if ever < 500 || tried[true] < 500 || tried[false] < 250 {
		t.Error(ever, tried)
	}
}

// TestP21_5Sum: Wait by d and by e is Wait by their sum.
func TestP21_5Sum(t *testing.T) {
	counts := map[api.Errno]int{}
	eachConfig(t, 5, 2500, func(r *rand.Rand, n api.Net, c Config, top int, great bool) {
		if great || !keepsInvariants(n, c) {
			return
		}
		d, e := someTime(r, top/2, false), someTime(r, top/2, false)
		sum, _ := held(new(big.Rat).Add(bigOf(d), bigOf(e)))
		between, err := Wait(n, c, d)
		if err == api.OK {
			between, err = Wait(n, between, e)
		}
		same(t, n, between, err)(Wait(n, c, sum))
		counts[err]++
	})
	enough(t, counts, 500, api.OK, api.ErrInv, api.ErrDelay)
}

// TestP21_6Goal: Check is OK just if All's last configuration meets the goal.
func TestP21_6Goal(t *testing.T) {
	counts := map[api.Errno]int{}
	eachRun(6, 1500, func(r *rand.Rand, n api.Net, x api.Run, top int) {
		l, err, step := All(n, x)
		c, _ := First(n)
		if err == api.OK {
			c = l[len(l)-1]
		}
		if len(c.State.Locs) == 0 {
			return
		}
		g := someGoal(r, n, c, top)
		part, _ := Meets(n, c, g)
		if err == api.OK {
			step = len(x.Steps)
		}
		if err == api.OK && part < 0 {
			err = api.ErrGoal
		}
		isCheck(t, err, step)(Check(n, x, g))
		counts[err]++
	})
	enough(t, counts, 100, api.OK, api.ErrGoal, api.ErrDelay, api.ErrMove, api.ErrGuard, api.ErrInv)
}

// TestP21_7Cut: a run that is cut behind a step goes on from there as it did.
func TestP21_7Cut(t *testing.T) {
	whole, failed := 0, 0
	eachRun(7, 800, func(r *rand.Rand, n api.Net, x api.Run, top int) {
		l, err, step := All(n, x)
		if len(l) > 0 && len(l) != 2*len(x.Steps)+2 {
			t.Fatal(l)
		}
		if _, no := First(n); no != api.OK {
			return
		}
		for k := range len(x.Steps) + 1 {
			cut := run.Cut(x, k)
			if err != api.OK && k > step {
				isNone(t, err, step)(All(n, cut))
				failed++
				continue
			}
			first, no, _ := All(n, cut)
			if no != api.OK || len(first) != 2*k+2 {
				t.Fatal(n, x, k, no)
			}
			// It stays where it is, as the cut run waits by 0.
			c := first[2*k+1]
			is(t, n, textOf(n, first[2*k]))(c, api.OK)
			for i := range first[:2*k+1] {
				if len(l) > 0 {
					is(t, n, textOf(n, l[i]))(first[i], api.OK)
				}
			}
			goOn(t, n, x, k, c, l, err, step)
			whole++
		}
		if t.Failed() {
			t.Fatal(n, x)
		}
	})
	if whole < 3000 || failed < 300 {
		t.Error(whole, failed)
	}
}

// goOn does what is left of a run behind k steps, call by call, and holds it to what all of it does.
func goOn(t testing.TB, n api.Net, x api.Run, k int, c Config, l []Config, err api.Errno, step int) {
	t.Helper()
	var no api.Errno
	for i := k; i <= len(x.Steps); i++ {
		d := x.Last
		if i < len(x.Steps) {
			d = x.Steps[i].Delay
		}
		c, no = Wait(n, c, d)
		if no == api.OK && len(l) > 0 {
			is(t, n, textOf(n, l[2*i+1]))(c, no)
		}
		if no == api.OK && i < len(x.Steps) {
			c, no = Do(n, c, x.Steps[i].Move)
			if no == api.OK && len(l) > 0 {
				is(t, n, textOf(n, l[2*i+2]))(c, no)
			}
		}
		if no != api.OK {
			if no != err || i != step {
				t.Error(no, i, err, step)
			}
			return
		}
	}
	if err != api.OK {
		t.Error(no, err, step)
	}
}

// TestP21E4 (P19.6): the runs that times tells of ways that a search has found are runs, and reach the goal with the part that was found.
func TestP21E4(t *testing.T) {
	r := source(8)
	found, moved := 0, 0
	for range 1500 {
		top := 1 + r.IntN(6)
		n := someNet(r, top)
		l, _, _ := wantAll(n, someRun(r, n, 5, top, false))
		if len(l) == 0 {
			continue
		}
		last := l[len(l)-1]
		g := someGoal(r, n, last, top)
		for i := range g {
			// Such as a move or several lead to, if one did.
			g[i].Locs = nil
			for auto, loc := range last.State.Locs {
				g[i].Locs = append(g[i].Locs, api.At{Auto: auto, Loc: loc})
			}
		}
		s, err := search.New(n, g, api.Plan{}, r.IntN(2) == 0)
		if err != api.OK {
			t.Fatal(n, g, err)
		}
		if v, _ := s.Go(200); v != api.Reachable {
			continue
		}
		node, part := s.Found()
		way, _ := trace.Of(s.Nodes(), node)
		x, err := times.Run(n, way, g[part])
		if err != api.OK {
			t.Fatal(n, g, way, err)
		}
		isCheck(t, api.OK, len(way))(Check(n, x, g))
		isCheck(t, api.OK, len(way))(Check(n, x, g[part:part+1]))
		if t.Failed() {
			t.Fatal(n, g, x)
		}
		if found++; len(way) > 0 {
			moved++
		}
	}
	if found < 400 || moved < 100 {
		t.Error(found, moved)
	}
}
