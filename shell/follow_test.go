package shell

import (
	"fmt"
	"math/rand/v2"
	"slices"
	"strings"
	"testing"

	"gnomon/api"
	"gnomon/net"
)

// answersOf are the answers of a script's lines, one by one: what each beginning has more than the one ahead of it.
func answersOf(t testing.TB, lines []string) []string {
	t.Helper()
	var l []string
	script, before := "", ""
	for _, s := range lines {
		script += s + "\n"
		all := Run(script)
		answer, ok := strings.CutPrefix(all, before)
		if !ok {
			t.Fatalf("%q: %q, not behind %q", script, all, before)
		}
		l = append(l, answer)
		before = all
	}
	return l
}

// someLines are lines at random, behind some that make networks and zones.
func someLines(r *rand.Rand, many int) []string {
	l := []string{"net a " + small, "net b " + rich, "zone a 2", "zero b 2", "up b"}
	for range many {
		l = append(l, spoil(r, someLine(r)))
	}
	return l
}

// TestP28_2Beginnings: the answer of a script begins with that of each of its beginnings that end with a line feed; and what is behind it is answered in whole lines.
func TestP28_2Beginnings(t *testing.T) {
	r := source(21)
	for range 150 {
		lines := someLines(r, 20)
		l := answersOf(t, lines)
		for i, answer := range l {
			if answer != "" && !strings.HasSuffix(answer, "\n") {
				t.Fatalf("%q: %q", lines[i], answer)
			}
			first := strings.TrimLeft(lines[i], " ")
			if passed := first == "" || first[0] == '#'; passed != (answer == "") {
				t.Fatalf("%q: %q", lines[i], answer)
			}
		}
		// The last line needs no line feed.
		script := strings.Join(lines, "\n")
		if Run(script) != strings.Join(l, "") {
			t.Fatal(script)
		}
	}
}

// changesNothing tells whether a line is one of those that change nothing, by its first word.
func changesNothing(line string) bool {
	first, _, _ := strings.Cut(strings.TrimLeft(line, " "), " ")
	return first == "" || first[0] == '#' || slices.Contains(askers(), first)
}

// TestP28_3Asking: a line that only asks may stand anywhere, or not: all others are answered the same.
func TestP28_3Asking(t *testing.T) {
	r := source(31)
	asked := map[string]int{}
	for range 150 {
		lines := someLines(r, 20)
		l := answersOf(t, lines)
		// Such lines are left out.
		var rest, kept []string
		for i, s := range lines {
			if !changesNothing(s) {
				rest, kept = append(rest, s), append(kept, l[i])
			}
		}
		if Run(strings.Join(rest, "\n")) != strings.Join(kept, "") {
			t.Fatal(lines)
		}
		// Others are put in, several of them too.
		var mixed, want []string
		for i, s := range lines {
			for range r.IntN(3) {
				more := someAsker(r)
				if r.IntN(9) == 0 {
					more = "#" + more
				}
				mixed = append(mixed, more)
				want = append(want, "")
			}
			mixed, want = append(mixed, s), append(want, l[i])
		}
		for i, answer := range answersOf(t, mixed) {
			if want[i] != "" && answer != want[i] {
				t.Fatalf("%q: %q, not %q", mixed[i], answer, want[i])
			}
			if first, _, _ := strings.Cut(mixed[i], " "); want[i] == "" && answer != "" && answer != "word\n" && answer != "none\n" {
				asked[first]++
			}
		}
	}
	for _, first := range askers() {
		if asked[first] < 20 {
			t.Error(first, asked)
		}
	}
}

func someGuards(r *rand.Rand, clocks, top int) []api.Guard {
	var l []api.Guard
	for range r.IntN(3) {
		if clocks > 0 {
			l = append(l, api.Guard{Clock: 1 + r.IntN(clocks), Cmp: api.Cmp(1 + r.IntN(5)), N: r.IntN(top + 1)})
		}
	}
	return l
}

func someEdge(r *rand.Rand, n api.Net, locs, top int) api.Edge {
	e := api.Edge{From: r.IntN(locs), To: r.IntN(locs), Guards: someGuards(r, len(n.Clocks), top), Chan: r.IntN(len(n.Chans) + 1)}
	e.Send = e.Chan > 0 && r.IntN(2) == 0
	for range r.IntN(3) {
		if len(n.Clocks) > 0 {
			e.Sets = append(e.Sets, api.Set{Clock: 1 + r.IntN(len(n.Clocks)), N: r.IntN(top+1) * r.IntN(2)})
		}
	}
	if len(n.Vars) > 0 && r.IntN(2) == 0 {
		v := r.IntN(len(n.Vars))
		e.Sets = append(e.Sets, api.Set{Var: v, Expr: []api.Node{{Op: api.Add}, {Op: api.Var, N: v}, {Op: api.Num, N: 1}}})
		e.Test = []api.Node{{Op: api.Less}, {Op: api.Var}, {Op: api.Num, N: 1 + r.IntN(2)}}
	}
	return e
}

// someNet is a right network with so many clocks, whose numbers are at most top.
func someNet(r *rand.Rand, clocks, top int) api.Net {
	n := api.Net{Clocks: []string{"x", "y", "z", "w"}[:clocks], Chans: []string{"c", "d"}[:r.IntN(3)]}
	for _, name := range []string{"n", "m"}[:r.IntN(3)] {
		n.Vars = append(n.Vars, api.Variable{Name: name, Hi: 2})
	}
	for _, name := range []string{"A", "B", "C"}[:1+r.IntN(3)] {
		a := api.Auto{Name: name}
		for i := range 1 + r.IntN(3) {
			a.Locs = append(a.Locs, api.Loc{Name: fmt.Sprint("l", i), Kind: api.LocKind(max(0, r.IntN(12)-9))})
			if r.IntN(3) == 0 {
				a.Locs[i].Inv = someGuards(r, clocks, top)
			}
		}
		for range 2 + r.IntN(6) {
			a.Edges = append(a.Edges, someEdge(r, n, len(a.Locs), top))
		}
		n.Autos = append(n.Autos, a)
	}
	return n
}

// someAim is a right goal of few parts that seldom holds at the beginning.
func someAim(r *rand.Rand, n api.Net, top int) api.Goal {
	var g api.Goal
	for range 1 + r.IntN(3) {
		p := api.Part{Guards: append(someGuards(r, len(n.Clocks), top), someGuards(r, len(n.Clocks), top)...)}
		for i, a := range n.Autos {
			if r.IntN(4) > 0 {
				p.Locs = append(p.Locs, api.At{Auto: i, Loc: len(a.Locs) - 1 - r.IntN(2)*r.IntN(len(a.Locs))})
			}
		}
		g = append(g, p)
	}
	return g
}

// TestP28_4Same (E6): plan by 0, 1, 2 and ask of one question begin with the same word, if none is unknown; what is told is that of the words.
func TestP28_4Same(t *testing.T) {
	r := source(41)
	counts := map[string]int{}
	for k := range 200 {
		n := someNet(r, k%4, 3)
		text, err := net.Print(n)
		if err != api.OK {
			t.Fatal(err)
		}
		goal, err := net.PrintGoal(n, someAim(r, n, 5))
		if err != api.OK {
			t.Fatal(err)
		}
		question := pick(r, "reach ", "never ") + goal
		lines := []string{"net a " + strings.ReplaceAll(text, "\n", " "), "ask a " + question}
		want := []string{"ok\n", wantTold(n, question, 0, false)}
		for plan := range 3 {
			lines = append(lines, fmt.Sprintf("plan a %d %s", plan, question))
			want = append(want, wantTold(n, question, plan, true))
		}
		if l := Run(strings.Join(lines, "\n")); l != strings.Join(want, "") {
			t.Fatal(lines, l, want)
		}
		same := ""
		for _, answer := range want[1:] {
			word, _, _ := strings.Cut(answer, " ")
			if counts[word]++; word == "unknown" {
				continue
			}
			if same == "" {
				same = word
			}
			if word != same || word != "yes" && word != "no" {
				t.Fatal(lines, want)
			}
		}
	}
	if counts["yes"] < 200 || counts["no"] < 200 {
		t.Error(counts)
	}
}

// TestP28_1Kept: nothing is kept from call to call, and no answer hangs on what was answered ahead of it.
func TestP28_1Kept(t *testing.T) {
	for _, line := range []string{"show a", "max a", "ask a reach true", "plan a 0 reach true", "moves a", "up a", "down a", "reset a 1 1", "free a 1", "limit a x1-x0<1", "widen a 1", "print a", "point a", "has a 0", "includes a a", "equal a a"} {
		Run("net a " + small + "\nzone a 1\n")
		if got := Run(line); got != "none\n" {
			t.Errorf("%q: %q", line, got)
		}
	}
	r := source(51)
	var scripts, answers []string
	for range 60 {
		scripts = append(scripts, strings.Join(someLines(r, 15), "\n"))
		answers = append(answers, Run(scripts[len(scripts)-1]))
	}
	for _, i := range r.Perm(len(scripts)) {
		if Run(scripts[i]) != answers[i] {
			t.Fatal(scripts[i])
		}
	}
}

// TestP28P1: any bytes at all: each line that has a word and is no remark is answered, and nothing breaks.
func TestP28P1(t *testing.T) {
	r := source(61)
	for range 3000 {
		b := make([]byte, r.IntN(60))
		for i := range b {
			b[i] = pick(r, ' ', ' ', '\n', 'a', 'z', '#', '0', '9', 'x', '-', '<', '=', byte(r.IntN(256)))
		}
		if got, want := Run(string(b)), wantRun(string(b)); got != want {
			t.Fatalf("%q: %q, not %q", b, got, want)
		}
	}
	// Each line of the table, cut at each place.
	for _, line := range []string{"net a " + small, "max a x > 3", "ask a reach A.b", "plan a 1 never A.b", "zero z 2", "reset z 1 2", "limit z x1-x0<=5 x2-x1inf", "widen z 1 2", "has z 1/2 1", "includes z z", "print z"} {
		for i := range len(line) + 1 {
			script := "net a " + small + "\nzone z 2\n" + line[:i] + "\nprint z\n" + line[i:]
			if got, want := Run(script), wantRun(script); got != want {
				t.Fatalf("%q: %q, not %q", script, got, want)
			}
		}
	}
}
