package run

import (
	"math/rand/v2"
	"slices"
	"strings"
	"testing"

	"gnomon/api"
	"gnomon/rat"
)

// eachRun hands runs at random to a function: of small and of great fractions, some of them broken.
func eachRun(seed uint64, many int, try func(r *rand.Rand, x api.Run)) {
	r := source(seed)
	for k := range many {
		try(r, someRun(r, k%8, k%3 == 0, k%4 == 3))
	}
}

// TestP20_2Model: Times, held against exact numbers.
func TestP20_2Model(t *testing.T) {
	counts := map[api.Errno]int{}
	eachRun(1, 6000, func(r *rand.Rand, x api.Run) {
		want, err := wantTimes(x)
		isTimes(t, want, err)(Times(x))
		counts[err]++
	})
	if counts[api.OK] < 2000 || counts[api.ErrDelay] < 300 || counts[api.ErrOver] < 300 {
		t.Error(counts)
	}
}

// TestP20_2OfModel: OfTimes, held against exact numbers.
func TestP20_2OfModel(t *testing.T) {
	counts := map[api.Errno]int{}
	eachRun(2, 9000, func(r *rand.Rand, x api.Run) {
		l := delaysOf(x)
		if r.IntN(3) > 0 {
			slices.SortFunc(l, rat.Compare)
		}
		way := Moves(x)
		if r.IntN(10) == 0 {
			l = l[1:]
		}
		want, err := wantOfTimes(way, l)
		isMade(t, want, err)(OfTimes(way, l))
		counts[err]++
	})
	if counts[api.OK] < 1000 || counts[api.ErrDelay] < 1000 || counts[api.ErrOver] < 300 || counts[api.ErrLong] < 300 {
		t.Error(counts)
	}
}

func delaysOf(x api.Run) []api.Rat {
	var l []api.Rat
	for _, s := range x.Steps {
		l = append(l, s.Delay)
	}
	return append(l, x.Last)
}

// TestP20_3Model: Join, held against exact numbers.
func TestP20_3Model(t *testing.T) {
	r := source(3)
	counts := map[api.Errno]int{}
	for k := range 6000 {
		var l []api.Run
		for range 1 + r.IntN(4) {
			l = append(l, someRun(r, 2, k%3 == 0, k%4 == 3))
		}
		want, err := wantJoin(l)
		isMade(t, want, err)(Join(l[0], l[1:]...))
		counts[err]++
	}
	if counts[api.OK] < 2000 || counts[api.ErrDelay] < 100 || counts[api.ErrOver] < 300 {
		t.Error(counts)
	}
}

// TestP20_5Back: OfTimes of Moves and Times is the run; Times of OfTimes are the times; times do not fall.
func TestP20_5Back(t *testing.T) {
	tried, over := 0, 0
	eachRun(4, 6000, func(r *rand.Rand, x api.Run) {
		l, err := Times(x)
		if err != api.OK {
			return
		}
		tried++
		for i := 1; i < len(l); i++ {
			if rat.Compare(l[i-1], l[i]) > 0 {
				t.Fatal(l)
			}
		}
		isMade(t, x, api.OK)(OfTimes(Moves(x), l))
		// From times on.
		l = delaysOf(x)
		slices.SortFunc(l, rat.Compare)
		y, err := OfTimes(Moves(x), l)
		if err != api.OK {
			over++
			return
		}
		isTimes(t, l, api.OK)(Times(y))
	})
	if tried < 2000 || over > tried/2 {
		t.Error(tried, over)
	}
}

// TestP20_6Cut: Cut of Cut is the shorter one; the times of Cut are the first ones; Join of Cut and the rest has the same times.
func TestP20_6Cut(t *testing.T) {
	joined := 0
	eachRun(5, 3000, func(r *rand.Rand, x api.Run) {
		many := len(x.Steps)
		times, err := Times(x)
		for i := -1; i <= many+1; i++ {
			c := Cut(x, i)
			for j := -1; j <= many+1; j++ {
				// As a copy of the run, where none of both cuts.
				want := Cut(x, min(i, j))
				if j > i && i <= many {
					want = c
				}
				isRun(t, want)(Cut(c, j))
			}
			if err != api.OK || i < 0 || i > many {
				continue
			}
			// Of the last step twice: when it is done, it is over.
			first := slices.Clone(times[:i])
			if i == 0 {
				first = append(first, rat.Of(0))
			} else {
				first = append(first, times[i-1])
			}
			isTimes(t, first, api.OK)(Times(c))
			rest := api.Run{Steps: x.Steps[i:], Last: x.Last}
			isMade(t, x, api.OK)(Join(c, rest))
			joined++
		}
	})
	if joined < 3000 {
		t.Error(joined)
	}
}

// TestP20_6Join: the times of runs that are joined go on where those ahead end; it does not matter which are joined first.
func TestP20_6Join(t *testing.T) {
	r := source(6)
	for range 2000 {
		a, b, c := someRun(r, 3, false, false), someRun(r, 3, false, false), someRun(r, 3, false, false)
		all, err := Join(a, b, c)
		if err != api.OK {
			t.Fatal(err)
		}
		ab, _ := Join(a, b)
		bc, _ := Join(b, c)
		isMade(t, all, api.OK)(Join(ab, c))
		isMade(t, all, api.OK)(Join(a, bc))
		var want []api.Rat
		ahead := rat.Of(0)
		for _, x := range []api.Run{a, b, c} {
			l, _ := Times(x)
			for _, time := range l[:len(x.Steps)] {
				sum, _ := rat.Add(ahead, time)
				want = append(want, sum)
			}
			ahead, _ = rat.Add(ahead, l[len(x.Steps)])
		}
		isTimes(t, append(want, ahead), api.OK)(Times(all))
		if !slices.Equal(Moves(all), slices.Concat(Moves(a), Moves(b), Moves(c))) {
			t.Fatal(a, b, c, all)
		}
	}
}

// TestP20_7Back (E8): Parse of Print is the run; Print of what Parse takes is what was read; texts changed in a place are read as a pattern of lines says.
func TestP20_7Back(t *testing.T) {
	n := said(t, rich)
	p := readerOf(n)
	counts := map[api.Errno]int{}
	eachRun(7, 3000, func(r *rand.Rand, x api.Run) {
		text, err := Print(n, x)
		if slices.ContainsFunc(delaysOf(x), func(d api.Rat) bool { return !isRight(d) || d.Num < 0 }) {
			isErr(t, n, x, api.ErrDelay)
			return
		}
		if text != wantText(n, x) || err != api.OK {
			t.Fatalf("%q %d", text, err)
		}
		isRead(t, x, api.OK, 0)(Parse(n, text))
		for range 6 {
			other := changed(r, text)
			wantErr, wantLine := p.fault(other)
			y, err, line := Parse(n, other)
			if err != wantErr || line != wantLine {
				t.Fatalf("%q %d %d, not %d %d", other, err, line, wantErr, wantLine)
			}
			counts[err]++
			if err == api.OK {
				isText(t, other, api.OK)(Print(n, y))
			}
			if Same(x, y) != (text == other) {
				t.Fatalf("%q %q", text, other)
			}
		}
	})
	if counts[api.OK] < 1000 || counts[api.ErrSyntax] < 3000 {
		t.Error(counts)
	}
}

// changed is a text with a byte, or a line, that is another one, is gone, or stands there once more.
func changed(r *rand.Rand, text string) string {
	lines := strings.SplitAfter(text, "\n")
	at, i := r.IntN(len(text)), r.IntN(len(lines))
	switch r.IntN(6) {
	case 0:
		return text[:at] + text[at+1:]
	case 1:
		return text[:at] + text[at:at+1] + text[at:]
	case 2:
		return strings.Join(slices.Delete(lines, i, i+1), "")
	case 3:
		return strings.Join(slices.Insert(lines, i, lines[i]), "")
	case 4:
		return text[:at]
	}
	const signs = "Aend.0123/ -\n"
	return text[:at] + signs[r.IntN(len(signs)):][:1] + text[at+1:]
}
