package query

import (
	"math/rand/v2"
	"slices"
	"strings"
	"testing"

	"gnomon/api"
	"gnomon/check"
	"gnomon/net"
	"gnomon/parse"
	"gnomon/replay"
)

// eachQuestion hands networks at random, and questions of them, to a function.
func eachQuestion(seed uint64, many int, try func(r *rand.Rand, n api.Net, q Question)) {
	r := source(seed)
	for k := range many {
		n := someNet(r, k%(clocks+1), 3)
		try(r, n, Question{r.IntN(2) == 0, someGoal(r, n, 5)})
	}
}

// waysOf are ways of which the document says that the verdict is the same.
func waysOf(t testing.TB, r *rand.Rand, n api.Net, g api.Goal) []Way {
	t.Helper()
	var l []Way
	for _, p := range rightPlans(t, r, n, g) {
		l = append(l, Way{Plan: p}, Way{Plan: p, Last: true}, Way{Plan: p, Fuel: 1 + r.IntN(8)}, Way{Plan: p, Last: true, Fuel: 1 + r.IntN(8)})
	}
	return l
}

// TestP22_2Model: Ask, held against searches that are gone pop by pop; by all ways at once, and by each alone.
func TestP22_2Model(t *testing.T) {
	counts, verdicts := map[api.Errno]int{}, map[api.Verdict]int{}
	eachQuestion(1, 100, func(r *rand.Rand, n api.Net, q Question) {
		ways := waysOf(t, r, n, q.Goal)
		var want []string
		for _, w := range ways {
			a := wantTold(n, q, w)
			want = append(want, textOf(n, a))
			counts[a.Errno]++
			verdicts[a.Verdict]++
		}
		areTold(t, n, Ask(n, q, ways...), want...)
		i := r.IntN(len(ways))
		areTold(t, n, Ask(n, q, ways[i]), want[i])
		areTold(t, n, All(n, q, q), want[0], want[0])
		if t.Failed() {
			t.Fatal(n, q)
		}
	})
	if counts[api.OK] < 500 || counts[api.ErrFuel] < 80 || verdicts[api.Reachable] < 200 || verdicts[api.Unreachable] < 200 {
		t.Error(counts, verdicts)
	}
}

// TestP22_4Check (E4): Check of what Ask tells is OK; the run reaches the part that is told; its delays have small denominators.
func TestP22_4Check(t *testing.T) {
	counts := map[api.Verdict]int{}
	moved := 0
	eachQuestion(2, 300, func(r *rand.Rand, n api.Net, q Question) {
		for _, a := range Ask(n, q, waysOf(t, r, n, q.Goal)...) {
			if err := Check(n, q, a); err != api.OK {
				t.Fatal(n, q, a, err)
			}
			counts[a.Verdict]++
			if a.Verdict != api.Reachable {
				continue
			}
			if err, steps := replay.Check(n, a.Run, q.Goal[a.Part:a.Part+1]); err != api.OK || steps != len(a.Run.Steps) {
				t.Fatal(n, q, a, err, steps)
			}
			for _, s := range a.Run.Steps {
				if moved++; s.Delay.Den > api.MaxZones+2 {
					t.Fatal(a)
				}
			}
			if a.Run.Last.Den > api.MaxZones+2 {
				t.Fatal(a)
			}
		}
	})
	if counts[api.Reachable] < 500 || counts[api.Unreachable] < 500 || counts[api.Unknown] < 200 || moved < 500 {
		t.Error(counts, moved)
	}
}

// TestP22_5Same (E5, E6): two verdicts of one question, neither Unknown, are the same; and they are those that are found region by region.
func TestP22_5Same(t *testing.T) {
	counts := map[api.Verdict]int{}
	eachQuestion(3, 300, func(r *rand.Rand, n api.Net, q Question) {
		want := byRegions(n, q.Goal, check.Max(n, q.Goal))
		for _, a := range Ask(n, q, waysOf(t, r, n, q.Goal)...) {
			if a.Verdict == api.Unknown {
				continue
			}
			if want == api.Unknown {
				want = a.Verdict
			}
			if a.Verdict != want || a.Holds != ((want == api.Reachable) != q.Never) {
				t.Fatal(n, q, a, want)
			}
		}
		counts[want]++
	})
	if counts[api.Reachable] < 60 || counts[api.Unreachable] < 60 {
		t.Error(counts)
	}
}

// TestP22_6Other: of a question and the other one of the same goal just one holds; all else that is told is the same.
func TestP22_6Other(t *testing.T) {
	unknown, known := 0, 0
	eachQuestion(4, 120, func(r *rand.Rand, n api.Net, q Question) {
		ways := waysOf(t, r, n, q.Goal)
		l := Ask(n, q, ways...)
		for i, b := range Ask(n, Question{!q.Never, q.Goal}, ways...) {
			a := l[i]
			if a.Verdict == api.Unknown {
				if unknown++; a.Holds || b.Holds {
					t.Fatal(n, q, a, b)
				}
				continue
			}
			if known++; a.Holds == b.Holds {
				t.Fatal(n, q, a, b)
			}
			if a.Holds, b.Holds = false, false; textOf(n, a) != textOf(n, b) {
				t.Fatal(n, q, a, b)
			}
		}
	})
	if unknown < 80 || known < 500 {
		t.Error(unknown, known)
	}
}

// TestP22_7Parts: if a goal is reachable, so is each goal with a part more; if it is not, so is each with a part less.
func TestP22_7Parts(t *testing.T) {
	more, less := 0, 0
	eachQuestion(5, 500, func(r *rand.Rand, n api.Net, q Question) {
		way := Way{Last: r.IntN(2) == 0}
		verdict := func(g api.Goal) api.Verdict { return Ask(n, Question{q.Never, g}, way)[0].Verdict }
		switch verdict(q.Goal) {
		case api.Reachable:
			for _, p := range someGoal(r, n, 5) {
				i := r.IntN(len(q.Goal) + 1)
				if more++; verdict(slices.Insert(slices.Clone(q.Goal), i, p)) != api.Reachable {
					t.Fatal(n, q, p)
				}
			}
		case api.Unreachable:
			for i := range q.Goal {
				if less++; verdict(slices.Delete(slices.Clone(q.Goal), i, i+1)) != api.Unreachable {
					t.Fatal(n, q, i)
				}
			}
		}
	})
	if more < 100 || less < 100 {
		t.Error(more, less)
	}
}

// TestP22_8Back: Parse of Print is the question; Print of what Parse takes is the question's one text; texts that are changed in a place are read as their goals are.
func TestP22_8Back(t *testing.T) {
	counts := map[api.Errno]int{}
	read := 0
	eachQuestion(6, 2500, func(r *rand.Rand, n api.Net, q Question) {
		text, err := Print(n, q)
		if err != api.OK {
			t.Fatal(n, q, err)
		}
		if len(q.Goal) == 0 {
			// That of no part has no text that is read.
			isWrong(t, api.ErrEnd, 6)(Parse(n, text))
			return
		}
		isAsked(t, q)(Parse(n, text))
		if strings.HasPrefix(text, "never ") != q.Never {
			t.Fatal(text)
		}
		for range 4 {
			const signs = " reachnv.x<>=&|!()019\x00"
			i := r.IntN(len(text))
			other := text[:i] + signs[r.IntN(len(signs)):][:1] + text[i+r.IntN(2):]
			p, err, at := Parse(n, other)
			goal, isReach := strings.CutPrefix(other, "reach ")
			goal, isNever := strings.CutPrefix(goal, "never ")
			if isReach == isNever {
				isWrong(t, api.ErrSyntax, 0)(p, err, at)
				counts[api.ErrSyntax]++
				continue
			}
			g, want, place := parse.Goal(n, goal)
			if counts[err]++; want != api.OK {
				isWrong(t, want, place+len(other)-len(goal))(p, err, at)
				continue
			}
			isAsked(t, Question{isNever, g})(p, err, at)
			again, _ := Print(n, p)
			isAsked(t, p)(Parse(n, again))
			if (again == text) != (q.Never == p.Never && net.SameGoal(q.Goal, g)) {
				t.Fatal(text, other)
			}
			read++
		}
		if t.Failed() {
			t.Fatal(n, q)
		}
	})
	if read < 300 || counts[api.ErrSyntax] < 500 || counts[api.ErrName] < 300 || counts[api.ErrChar] < 100 {
		t.Error(read, counts)
	}
}

// wantCheck is Check by the words, of a right goal.
func wantCheck(n api.Net, q Question, a Told) api.Errno {
	must := map[api.Verdict]bool{api.Reachable: !q.Never, api.Unreachable: q.Never}
	holds, known := must[a.Verdict]
	switch {
	case !known && a.Holds:
		return api.ErrForm
	case !known:
		return api.OK
	case a.Verdict == api.Reachable:
		if err, _ := replay.Check(n, a.Run, q.Goal); err != api.OK {
			return err
		}
		if a.Part < 0 || a.Part > len(q.Goal)-1 {
			return api.ErrGoal
		}
	case len(a.Run.Steps) > 0 || a.Run.Last.Num != 0 || a.Run.Last.Den != 0:
		return api.ErrGoal
	}
	if a.Holds != holds {
		return api.ErrGoal
	}
	return api.OK
}

// TestP22_3Model: what might have been told, wrong in one field at a time, or in several.
func TestP22_3Model(t *testing.T) {
	counts := map[api.Errno]int{}
	eachQuestion(7, 600, func(r *rand.Rand, n api.Net, q Question) {
		told := Ask(n, q, Way{Last: r.IntN(2) == 0})[0]
		for range 20 {
			a := told
			a.Run.Steps = slices.Clone(told.Run.Steps)
			for range 1 + r.IntN(2) {
				spoil(r, &a)
			}
			want := wantCheck(n, q, a)
			if counts[want]++; Check(n, q, a) != want {
				t.Fatal(n, q, told, a, Check(n, q, a), want)
			}
		}
	})
	for _, err := range []api.Errno{api.OK, api.ErrForm, api.ErrGoal, api.ErrDelay, api.ErrGuard, api.ErrInv, api.ErrMove} {
		if counts[err] < 50 {
			t.Error(err, counts)
		}
	}
}

// spoil changes one field of what is told.
func spoil(r *rand.Rand, a *Told) {
	rat := func() api.Rat {
		return []api.Rat{{}, {Den: 1}, {Num: 1, Den: 1}, {Num: 7, Den: 2}, {Num: 9, Den: 1}, {Num: -1, Den: 1}, {Num: 2, Den: 2}}[r.IntN(7)]
	}
	i := 0
	if len(a.Run.Steps) > 0 {
		i = r.IntN(len(a.Run.Steps))
	}
	switch k := r.IntN(10); {
	case k == 0:
		a.Verdict = api.Verdict(r.IntN(4))
	case k == 1:
		a.Holds = !a.Holds
	case k == 2:
		a.Part += r.IntN(5) - 2
	case k == 3:
		a.Stored, a.Pops, a.Errno = r.IntN(9)-4, r.IntN(9)-4, api.Errno(r.IntN(9))
	case k == 4:
		a.Run.Last = rat()
	case k == 5:
		a.Run.Steps = append(a.Run.Steps, api.Step{Delay: rat(), Move: api.Move{Edge: r.IntN(3)}})
	case k == 6 && len(a.Run.Steps) > 0:
		a.Run.Steps = slices.Delete(a.Run.Steps, i, i+1)
	case k == 7 && len(a.Run.Steps) > 0:
		a.Run.Steps[i].Move.Edge += r.IntN(3) - 1
	case len(a.Run.Steps) > 0:
		a.Run.Steps[i].Delay = rat()
	}
}

// TestP22Fischer (E4, E5): Fischer's protocol keeps two from being there at once, if each waits for more than the others may take; else there is a run.
func TestP22Fischer(t *testing.T) {
	for _, w := range []struct {
		many  int
		wait  string
		holds bool
	}{{2, "> 2", true}, {2, ">= 2", false}, {3, "> 2", true}, {3, "> 1", false}} {
		n := said(t, fischer(w.many, w.wait))
		q := asked(t, n, "never P0.crit && P1.crit")
		for _, a := range Ask(n, q, Way{}, Way{Last: true}) {
			if a.Errno != api.OK || a.Holds != w.holds || Check(n, q, a) != api.OK {
				t.Error(w, a)
			}
		}
		// Each alone can be there.
		for _, a := range All(n, asked(t, n, "reach P0.crit"), asked(t, n, "reach P1.crit && P0.wait")) {
			if !a.Holds {
				t.Error(w, a)
			}
		}
	}
}
