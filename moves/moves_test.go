package moves

import (
	"fmt"
	"math"
	"math/rand/v2"
	"slices"
	"strings"
	"testing"

	"gnomon/api"
	"gnomon/net"
	"gnomon/state"
)

func source(seed uint64) *rand.Rand { return rand.New(rand.NewPCG(14, seed)) }

func at(locs ...int) api.State { return api.State{Locs: locs} }

// texts is moves by their text; so they can be held against a short word.
func texts(t *testing.T, n api.Net, l []api.Move) string {
	t.Helper()
	text, err := Print(n, l...)
	if err != api.OK {
		t.Fatal(l, err)
	}
	return text
}

// opens holds Open and After to an error, or to a state behind.
func opens(t *testing.T, n api.Net, s api.State, m api.Move, want api.State, err api.Errno) {
	t.Helper()
	if got := Open(n, s, m); got != err {
		t.Error(s, m, "open", got, "not", err)
	}
	next, got := After(n, s, m)
	if got != err || !alike(next, want) || err != api.OK && (next.Locs != nil || next.Vars != nil) {
		t.Error(s, m, "after", next, got, "not", want, err)
	}
	if is := slices.Contains(Enabled(n, s), m); is != (err == api.OK) {
		t.Error(s, m, "enabled", is)
	}
}

// TestP14Examples: those of the chapter.
func TestP14Examples(t *testing.T) {
	n := said(t, "chan c; auto A { loc a; loc b; edge a -> b sync c!; } auto B { loc a; loc b; edge a -> b sync c?; } auto C { loc a; loc b; edge a -> b sync c?; }")
	if got := texts(t, n, Enabled(n, at(0, 0, 0))); got != "A.0 B.0, A.0 C.0" || texts(t, n, All(n)) != got {
		t.Error(got)
	}
	n = said(t, "int n in 0 .. 3 := 0; auto A { loc a; edge a -> a do n := n + 1, n := n - 1; }")
	opens(t, n, api.State{Locs: []int{0}, Vars: []int{3}}, api.Move{}, api.State{}, api.ErrGuard)
	opens(t, n, api.State{Locs: []int{0}, Vars: []int{2}}, api.Move{}, api.State{Locs: []int{0}, Vars: []int{2}}, api.OK)
	n = said(t, "auto A { loc a; loc b; edge a -> b; } auto B { loc a committed; loc b; edge b -> a; }")
	if l := Enabled(n, at(0, 0)); len(l) != 0 || Open(n, at(0, 0), api.Move{}) != api.ErrMove {
		t.Error(l)
	}
	if got := texts(t, n, Enabled(n, at(0, 1))); got != "A.0, B.0" {
		t.Error(got)
	}
	// DOC.md: behind the third the edge can't be done.
	n = said(t, "int n in 0 .. 3 := 0; auto A { loc a; edge a -> a do n := n + 1; }")
	s, _ := state.First(n)
	for k := range 3 {
		next, err := After(n, s, api.Move{})
		if err != api.OK || next.Vars[0] != k+1 {
			t.Fatal(next, err)
		}
		s = next
	}
	opens(t, n, s, api.Move{}, api.State{}, api.ErrGuard)
}

// TestP14_1All: moves alone and together, in order.
func TestP14_1All(t *testing.T) {
	n := said(t, rich)
	if got := texts(t, n, All(n)); got != "A.0 AA.0, A.0 B.0, A.1, A.3 AA.3, AA.1, AA.2 A.2, AA.2 B.0, B.1" {
		t.Error(got)
	}
	for text, want := range map[string]string{
		"auto A { loc a; }": "",
		"auto A { loc a; edge a -> a; edge a -> a; } auto B { loc a; }":                                                                                                                                       "A.0, A.1",
		"chan c; auto A { loc a; edge a -> a sync c!; edge a -> a sync c?; }":                                                                                                                                 "",
		"chan c; auto A { loc a; edge a -> a sync c?; } auto B { loc a; edge a -> a sync c?; }":                                                                                                               "",
		"chan c; auto A { loc a; edge a -> a sync c!; } auto B { loc a; edge a -> a sync c!; }":                                                                                                               "",
		"chan c, d; auto A { loc a; edge a -> a sync c!; } auto B { loc a; edge a -> a sync d?; }":                                                                                                            "",
		"chan c; auto A { loc a; edge a -> a sync c?; } auto B { loc a; edge a -> a sync c!; }":                                                                                                               "B.0 A.0",
		"chan c; auto A { loc a; edge a -> a sync c?; edge a -> a sync c!; edge a -> a; edge a -> a sync c?; } auto B { loc a; edge a -> a sync c!; edge a -> a sync c?; edge a -> a sync c?; edge a -> a; }": "A.1 B.1, A.1 B.2, A.2, B.0 A.0, B.0 A.3, B.3",
	} {
		n := said(t, text)
		if got := texts(t, n, All(n)); got != want {
			t.Error(text, got)
		}
		if l := All(n); !slices.Equal(l, wantAll(n)) {
			t.Error(text, l)
		}
	}
	r := source(1)
	for range 5000 {
		n := someNet(r)
		if l, want := All(n), wantAll(n); !slices.Equal(l, want) {
			t.Fatal(n, l, want)
		}
	}
}

// TestP14_1Enabled: those that are open, in order, by the words.
func TestP14_1Enabled(t *testing.T) {
	r := source(2)
	counts := map[api.Errno]int{}
	for range 4000 {
		n := someNet(r)
		for range 4 {
			s := someState(r, n)
			var want []api.Move
			for _, m := range wantAll(n) {
				_, err := wantAfter(n, s, m)
				counts[err]++
				if err == api.OK {
					want = append(want, m)
				}
			}
			if l := Enabled(n, s); !slices.Equal(l, want) {
				t.Fatal(n, s, l, want)
			}
		}
	}
	if counts[api.OK] < 1000 || counts[api.ErrMove] < 1000 || counts[api.ErrGuard] < 1000 {
		t.Error(counts)
	}
}

// TestP14_1Stops: who asks for moves may stop behind each of them, alone or together.
func TestP14_1Stops(t *testing.T) {
	n := said(t, rich)
	all := All(n)
	for k := range all {
		var l []api.Move
		for m := range joined(halves(n, func(half) bool { return true })) {
			if l = append(l, m); len(l) > k {
				break
			}
		}
		if !slices.Equal(l, all[:k+1]) {
			t.Error(k, l)
		}
	}
}

// TestP14_1Committed: is some automaton in a committed location?
func TestP14_1Committed(t *testing.T) {
	n := said(t, "auto A { loc a; loc b urgent; loc c committed; } auto B { loc a committed; loc b; }")
	for a := range 3 {
		for b := range 2 {
			if want := a == 2 || b == 0; Committed(n, at(a, b)) != want {
				t.Error(a, b)
			}
		}
	}
	for _, s := range []api.State{{}, at(2), at(2, 0, 0), at(2, 2), at(3, 0), at(-1, 0), {Locs: []int{2, 0}, Vars: []int{0}}} {
		if Committed(n, s) {
			t.Error(s)
		}
	}
}

// richAt is a state of the rich network.
func richAt(a, b, c, n, m int) api.State {
	return api.State{Locs: []int{a, b, c}, Vars: []int{n, m}}
}

// TestP14_2NoMove: numbers below 0 and just outside, pairs that are none; in each state.
func TestP14_2NoMove(t *testing.T) {
	n := said(t, rich)
	for _, m := range []api.Move{
		{Auto: -1}, {Auto: 3}, {Auto: math.MinInt}, {Auto: math.MaxInt}, {Auto: 1 << 32, Edge: 1}, {Auto: 0, Edge: -1}, {Auto: 0, Edge: 4}, {Auto: 2, Edge: 2}, {Auto: 0, Edge: math.MinInt}, {Auto: 0, Edge: 1<<32 + 1},
		{Auto: 0, Edge: 0}, {Auto: 0, Edge: 2}, {Auto: 2, Edge: 0}, {Auto: 0, Edge: 3},
		{Auto: 0, Edge: 1, Take: 1}, {Auto: 0, Edge: 1, Take: -1}, {Auto: 0, Edge: 1, Take: math.MinInt}, {Auto: 0, Edge: 0, Take: 1}, {Auto: 1, Edge: 1, Take: math.MaxInt},
		{Auto: 0, Edge: 0, With: -1}, {Auto: 0, Edge: 0, With: 4}, {Auto: 0, Edge: 0, With: math.MinInt}, {Auto: 0, Edge: 0, With: math.MaxInt}, {Auto: 0, Edge: 0, With: -2}, {Auto: 0, Edge: 1, With: -1}, {Auto: 0, Edge: 0, With: 1<<32 + 2},
		{Auto: 0, Edge: 0, With: 1, Take: 2}, {Auto: 0, Edge: 0, With: 1, Take: 0}, {Auto: 1, Edge: 2, With: 2, Take: 0},
		{Auto: 0, Edge: 0, With: 2, Take: -1}, {Auto: 0, Edge: 0, With: 2, Take: 4}, {Auto: 0, Edge: 0, With: 3, Take: 2}, {Auto: 0, Edge: 0, With: 2, Take: math.MinInt}, {Auto: 0, Edge: 0, With: 2, Take: math.MaxInt},
		{Auto: 0, Edge: 0, With: 2, Take: 3}, {Auto: 0, Edge: 3, With: 2, Take: 0}, {Auto: 0, Edge: 3, With: 3, Take: 0}, {Auto: 0, Edge: 0, With: 2, Take: 1}, {Auto: 0, Edge: 0, With: 3, Take: 1},
		{Auto: 0, Edge: 0, With: 2, Take: 2}, {Auto: 1, Edge: 2, With: 1, Take: 0}, {Auto: 0, Edge: 2, With: 2, Take: 0}, {Auto: 2, Edge: 0, With: 2, Take: 0},
		{Auto: 0, Edge: 2, With: 2, Take: 2}, {Auto: 2, Edge: 0, With: 1, Take: 0}, {Auto: 1, Edge: 0, With: 1, Take: 0}, {Auto: 0, Edge: 1, With: 2, Take: 0}, {Auto: 0, Edge: 1, With: 2, Take: 1}, {Auto: 1, Edge: 1, With: 3, Take: 1},
	} {
		for _, s := range []api.State{richAt(0, 0, 0, 0, 2), richAt(1, 2, 1, 3, 0), richAt(2, 1, 0, 0, 0)} {
			opens(t, n, s, m, api.State{}, api.ErrMove)
		}
		if l, err := Guards(n, m); len(l) != 0 || err != api.ErrMove {
			t.Error(m, l, err)
		}
		if l, err := Resets(n, m); len(l) != 0 || err != api.ErrMove {
			t.Error(m, l, err)
		}
		for _, l := range [][]api.Move{{m}, {{Edge: 1}, m}, {m, {Edge: 1}}} {
			if text, err := Print(n, l...); text != "" || err != api.ErrMove {
				t.Error(m, text, err)
			}
		}
	}
}

// TestP14_2Open: where the automata are, who is committed, tests, sets.
func TestP14_2Open(t *testing.T) {
	n := said(t, rich)
	both := api.Move{With: 2}
	other := api.Move{With: 3}
	for _, x := range []struct {
		s    api.State
		m    api.Move
		want api.State
		err  api.Errno
	}{
		// m := m + n with the n that is set ahead; then the taker's m := m * 2.
		{richAt(0, 0, 0, 0, 2), both, richAt(1, 1, 0, 1, 6), 0}, {richAt(0, 0, 0, 2, 1), both, richAt(1, 1, 0, 3, 8), 0},
		{richAt(0, 0, 0, 0, 2), other, richAt(1, 0, 1, 1, 3), 0}, {richAt(0, 2, 0, 0, 2), other, richAt(1, 2, 1, 1, 3), 0},
		{richAt(1, 0, 0, 0, 2), both, api.State{}, api.ErrMove}, {richAt(0, 2, 0, 0, 2), both, api.State{}, api.ErrMove}, {richAt(0, 0, 1, 0, 2), other, api.State{}, api.ErrMove}, {richAt(1, 2, 0, 0, 2), both, api.State{}, api.ErrMove},
		// n < 3 of the sender, m > 0 of the taker; both of the values ahead of all sets.
		{richAt(0, 0, 0, 3, 2), both, api.State{}, api.ErrGuard}, {richAt(0, 0, 0, 0, 0), both, api.State{}, api.ErrGuard}, {richAt(0, 0, 0, 3, 2), other, api.State{}, api.ErrGuard}, {richAt(0, 0, 0, 0, 0), other, richAt(1, 0, 1, 1, 1), 0},
		// 2 * (m + n + 1) above 9; m + n + 1 above 9 though it is not set by the other.
		{richAt(0, 0, 0, 0, 4), both, api.State{}, api.ErrGuard}, {richAt(0, 0, 0, 0, 3), both, richAt(1, 1, 0, 1, 8), 0}, {richAt(0, 0, 0, 0, 9), other, api.State{}, api.ErrGuard}, {richAt(0, 0, 0, 0, 8), other, richAt(1, 0, 1, 1, 9), 0},
		// Not at the edge's From is told ahead of a test that does not hold.
		{richAt(1, 0, 0, 3, 0), both, api.State{}, api.ErrMove}, {richAt(0, 2, 0, 3, 0), both, api.State{}, api.ErrMove},
		// AA is committed: it may go, others may not.
		{richAt(0, 1, 0, 0, 2), other, api.State{}, api.ErrMove}, {richAt(0, 1, 0, 0, 2), api.Move{Edge: 1}, api.State{}, api.ErrMove}, {richAt(0, 1, 0, 0, 2), api.Move{Auto: 1, Edge: 1}, richAt(0, 0, 0, 0, 2), 0}, {richAt(0, 1, 1, 0, 2), api.Move{Auto: 2, Edge: 1}, api.State{}, api.ErrMove},
		{richAt(0, 1, 0, 3, 2), other, api.State{}, api.ErrMove}, {richAt(2, 1, 0, 3, 2), api.Move{Auto: 1, Edge: 1}, richAt(2, 0, 0, 3, 2), 0}, {richAt(2, 0, 1, 3, 2), api.Move{Auto: 2, Edge: 1}, api.State{}, api.ErrMove},
		// An urgent location is none that is committed.
		{richAt(0, 2, 1, 0, 2), api.Move{Auto: 2, Edge: 1}, richAt(0, 2, 0, 0, 2), 0}, {richAt(0, 2, 1, 0, 2), api.Move{Edge: 1}, richAt(2, 2, 1, 0, -2), 0}, {richAt(0, 2, 1, 1, 2), api.Move{Edge: 1}, api.State{}, api.ErrGuard},
		{richAt(1, 2, 1, 3, 2), api.Move{Edge: 3, With: 2, Take: 3}, richAt(0, 0, 1, 0, 2), 0},
	} {
		opens(t, n, x.s, x.m, x.want, x.err)
	}
}

// TestP14_2Committed: the one that sends, or the one that takes, or both, or others are committed.
func TestP14_2Committed(t *testing.T) {
	n := said(t, `chan c; auto A { loc a; loc k committed; edge a -> a sync c!; edge k -> k sync c!; }
		auto B { loc a; loc k committed; edge a -> k sync c?; edge k -> k sync c?; } auto C { loc a; loc k committed; edge a -> a; edge k -> a; }`)
	for _, x := range []struct{ a, b, c int }{{0, 0, 0}, {0, 0, 1}, {0, 1, 0}, {0, 1, 1}, {1, 0, 0}, {1, 0, 1}, {1, 1, 0}, {1, 1, 1}} {
		pair := api.Move{Edge: x.a, With: 2, Take: x.b}
		alone := api.Move{Auto: 2, Edge: x.c}
		s := at(x.a, x.b, x.c)
		if x.c == 1 && x.a+x.b == 0 {
			opens(t, n, s, pair, api.State{}, api.ErrMove)
		} else {
			opens(t, n, s, pair, at(x.a, 1, x.c), api.OK)
		}
		if x.c == 0 && x.a+x.b > 0 {
			opens(t, n, s, alone, api.State{}, api.ErrMove)
		} else {
			opens(t, n, s, alone, at(x.a, x.b, 0), api.OK)
		}
	}
}

// TestP14_2Sets: one behind the other, each within its bounds; a value that is none is no value.
func TestP14_2Sets(t *testing.T) {
	for _, x := range []struct {
		first, second string
		n, m          int
		wantN, wantM  int
		err           api.Errno
	}{
		{"n := 5, n := n * 2", "m := n + 1, n := 0", 1, 1, 0, 11, 0},
		{"n := m", "m := n", 3, 4, 4, 4, 0}, {"m := n", "n := m", 3, 4, 3, 3, 0}, {"x := 4", "x := 5", 3, 4, 3, 4, 0}, {"n := n", "m := m", 3, 4, 3, 4, 0},
		{"n := 20", "m := -20", 0, 0, 20, -20, 0}, {"n := 21", "x := 1", 0, 0, 0, 0, api.ErrGuard}, {"x := 0", "m := -21", 0, 0, 0, 0, api.ErrGuard}, {"n := -1", "x := 1", 0, 0, 0, 0, api.ErrGuard}, {"m := 21", "x := 1", 0, 0, 0, 0, api.ErrGuard},
		{"n := n + 1, n := 3", "x := 1", 20, 0, 0, 0, api.ErrGuard}, {"n := n - 1, n := 3", "x := 1", 20, 0, 3, 0, 0}, {"n := 0 - 1, n := 3", "x := 1", 0, 0, 0, 0, api.ErrGuard}, {"x := 1", "n := n + 1, n := 3", 20, 0, 0, 0, api.ErrGuard}, {"n := 19", "n := n + 1", 20, 0, 20, 0, 0},
		// More than int64 holds, on the way too; 0 of what has no value would be one that may be.
		{"n := big * big * big * big", "x := 1", 0, 0, 0, 0, api.ErrGuard}, {"x := 1", "m := big * big * big * big", 0, 0, 0, 0, api.ErrGuard}, {"m := 0 * (big * big * big * big)", "x := 1", 0, 0, 0, 0, api.ErrGuard}, {"m := big * big * big * big - big * big * big * big", "x := 1", 0, 0, 0, 0, api.ErrGuard}, {"m := big * big * big - big * big * big", "x := 1", 0, 5, 0, 0, 0},
		{"big := 0, m := 0 * (big * big * big * big)", "x := 1", 0, 9, 0, 0, 0},
	} {
		n := said(t, "clock x; int n in 0 .. 20 := 0; int m in -20 .. 20 := 0; int big in 0 .. 1048576 := 1048576; chan c; auto A { loc a; loc b; edge a -> b sync c! do "+x.first+"; } auto B { loc a; loc b; edge a -> b sync c? do "+x.second+"; }")
		m := api.Move{With: 2}
		s := api.State{Locs: []int{0, 0}, Vars: []int{x.n, x.m, 1 << 20}}
		want := api.State{}
		if x.err == api.OK {
			want = api.State{Locs: []int{1, 1}, Vars: []int{x.wantN, x.wantM, 1 << 20}}
			if strings.Contains(x.first, "big := 0") {
				want.Vars[2] = 0
			}
		}
		opens(t, n, s, m, want, x.err)
	}
}

// TestP14_2Tests: both hold of the values ahead; one without a value does not hold.
func TestP14_2Tests(t *testing.T) {
	for _, x := range []struct {
		first, second string
		err           api.Errno
	}{
		{"n == 1", "n == 1", 0}, {"n == 2", "n == 1", api.ErrGuard}, {"n == 1", "n == 2", api.ErrGuard}, {"(true)", "(true)", 0}, {"true", "!(n == 1)", api.ErrGuard}, {"!(true)", "true", api.ErrGuard},
		{"big * big * big * big > 0", "true", api.ErrGuard}, {"true", "big * big * big * big < 0", api.ErrGuard}, {"true", "!(big * big * big * big < 0)", api.ErrGuard}, {"(n == 1 || big * big * big * big > 0)", "true", 0}, {"(big * big * big * big > 0 || n == 1)", "true", api.ErrGuard}, {"(n == 2 && big * big * big * big > 0 || n == 1)", "true", 0}, {"big * big * big > 0", "true", 0},
	} {
		n := said(t, "int n in 0 .. 20 := 0; int big in 0 .. 1048576 := 1048576; chan c; auto A { loc a; loc b; edge a -> b when "+x.first+" sync c! do n := 2; } auto B { loc a; loc b; edge a -> b when "+x.second+" sync c?; }")
		s := api.State{Locs: []int{0, 0}, Vars: []int{1, 1 << 20}}
		want := api.State{}
		if x.err == api.OK {
			want = api.State{Locs: []int{1, 1}, Vars: []int{2, 1 << 20}}
		}
		opens(t, n, s, api.Move{With: 2}, want, x.err)
	}
	// Guards, invariants and sets of clocks say nothing here.
	n := said(t, "clock x; auto A { loc a inv x < 0; loc b inv x < 0; edge a -> b when x < 0 do x := 7; }")
	opens(t, n, at(0), api.Move{}, at(1), api.OK)
}

// TestP14_2Words: any moves, in any states, by the words.
func TestP14_2Words(t *testing.T) {
	r := source(3)
	counts := map[api.Errno]int{}
	for range 4000 {
		n := someNet(r)
		s := someState(r, n)
		for range 12 {
			m := someMove(r, n)
			want, err := wantAfter(n, s, m)
			counts[err]++
			if got := Open(n, s, m); got != err {
				t.Fatal(n, s, m, got, err)
			}
			if next, got := After(n, s, m); got != err || !alike(next, want) {
				t.Fatal(n, s, m, next, got, want, err)
			}
		}
	}
	if counts[api.OK] < 1000 || counts[api.ErrMove] < 1000 || counts[api.ErrGuard] < 1000 {
		t.Error(counts)
	}
}

// TestP14_3Guards: of Auto's edge, then of the other one; of clocks alone the sets.
func TestP14_3Guards(t *testing.T) {
	n := said(t, rich)
	for _, x := range []struct {
		m            api.Move
		guards, sets string
	}{
		{api.Move{With: 2}, "[{1 0 4 3} {2 0 1 2} {2 0 5 4}]", "[{1 1 0 []} {2 2 0 []} {1 3 0 []} {1 0 0 []}]"},
		{api.Move{With: 3}, "[{1 0 4 3} {2 0 1 2}]", "[{1 1 0 []} {2 2 0 []}]"},
		{api.Move{Edge: 1}, "[]", "[{1 7 0 []}]"},
		{api.Move{Auto: 1, Edge: 2, With: 1, Take: 2}, "[]", "[]"},
		{api.Move{Auto: 1, Edge: 1}, "[]", "[]"},
		{api.Move{Edge: 3, With: 2, Take: 3}, "[]", "[]"},
	} {
		guards, err := Guards(n, x.m)
		if fmt.Sprint(guards) != x.guards || err != api.OK {
			t.Error(x.m, guards, err)
		}
		sets, err := Resets(n, x.m)
		if fmt.Sprint(sets) != x.sets || err != api.OK {
			t.Error(x.m, sets, err)
		}
	}
	r := source(4)
	for range 2000 {
		n := someNet(r)
		for range 5 {
			m := someMove(r, n)
			var guards []api.Guard
			sets := []api.Set{}
			want := api.ErrMove
			if slices.Contains(wantAll(n), m) {
				want = api.OK
				for _, e := range ends(n, m) {
					guards = append(guards, e.Guards...)
					sets = append(sets, slices.DeleteFunc(slices.Clone(e.Sets), func(s api.Set) bool { return s.Clock == 0 })...)
				}
			}
			if l, err := Guards(n, m); !slices.Equal(l, guards) || err != want {
				t.Fatal(n, m, l, err)
			}
			if l, err := Resets(n, m); fmt.Sprint(l) != fmt.Sprint(sets) || err != want {
				t.Fatal(n, m, l, err)
			}
		}
	}
}

// TestP14_4Texts: there and back, and what is none.
func TestP14_4Texts(t *testing.T) {
	n := said(t, rich)
	for text, want := range map[string][]api.Move{
		"": nil, "A.1": {{Edge: 1}}, "A.0 AA.0": {{With: 2}}, "AA.2 A.2": {{Auto: 1, Edge: 2, With: 1, Take: 2}}, "A.1, A.1": {{Edge: 1}, {Edge: 1}}, "B.1, A.0 AA.0, AA.1": {{Auto: 2, Edge: 1}, {With: 2}, {Auto: 1, Edge: 1}},
	} {
		l, err := Parse(n, text)
		back, err2 := Print(n, want...)
		if !slices.Equal(l, want) || err != api.OK || back != text || err2 != api.OK {
			t.Errorf("%q: %v %d %q %d", text, l, err, back, err2)
		}
	}
	for _, text := range []string{
		" ", ",", ", ", ".", "A", "A.", ".1", "1", "A.1,", "A.1, ", ", A.1", "A.1,A.1", "A.1,  A.1", "A.1 , A.1", "A.1, , A.1", "A.1; A.1", "A.1\n", "\nA.1", " A.1", "A.1 ", "A .1", "A. 1", "A.1  A.1", "A.0  AA.0", "A.0 AA.0 ", " A.0 AA.0", "A.0\tAA.0", "A.0 AA .0",
		"A.01", "A.+1", "A.-1", "A.-0", "A.0x1", "A.1.0", "A.1.", "A..1", "A.1_", "A.\u0661", "A.18446744073709551617", "A.4294967297", "A.9223372036854775808", "A.256", "A.257", "A.00 AA.0", "A.0 AA.00", "A.0 AA.+0", "A.0 AA.-0", "A.0 AA.",
		"A.0", "A.2", "A.3", "A.4", "B.0", "B.2", "AA.0", "AA.4", "C.1", "a.1", "n.1", "x.1", "c.1", "AAA.1", "k.1", "A.a",
		"A.0 A.2", "A.0 AA.1", "A.0 AA.2", "A.0 AA.3", "A.0 B.1", "A.0 B.2", "A.1 AA.0", "A.1 AA.1", "A.1 B.1", "AA.0 A.0", "B.0 A.0", "A.2 AA.2", "A.3 AA.0", "A.0 AA.0 B.0", "A.0 AA.0 AA.0", "A.0 n.0", "A.0 ", "A.0 AA", "A.0 C.0",
		"A.1, A.0", "A.0, A.1", "A.1, A.0 AA.0, B.0", "A.1 A.1", "AA.1 B.1", strings.Repeat("A.1, ", 1<<12), strings.Repeat("A", 1<<16), "A." + strings.Repeat("0", 1<<16),
	} {
		if l, err := Parse(n, text); len(l) != 0 || err != api.ErrMove {
			t.Errorf("%q: %v %d", text, l, err)
		}
	}
	if text, err := Print(n); text != "" || err != api.OK {
		t.Error(text, err)
	}
	many := slices.Repeat([]api.Move{{Edge: 1}, {With: 2}}, 5000)
	text, err := Print(n, many...)
	if l, err2 := Parse(n, text); !slices.Equal(l, many) || err != api.OK || err2 != api.OK {
		t.Error(len(l), err, err2)
	}
}

// TestP14_7ThereAndBack: Parse of Print is the moves; Print of what Parse takes is what was read; just the texts of moves are taken.
func TestP14_7ThereAndBack(t *testing.T) {
	r := source(5)
	taken := 0
	for range 1000 {
		n := someNet(r)
		all := wantAll(n)
		known := map[string]api.Move{}
		for _, m := range all {
			text := wantText(n, m)
			if o, there := known[text]; there {
				t.Fatal(text, m, o)
			}
			known[text] = m
		}
		for range 20 {
			var l []api.Move
			for range r.IntN(4) {
				if len(all) > 0 {
					l = append(l, all[r.IntN(len(all))])
				}
			}
			text, err := Print(n, l...)
			back, err2 := Parse(n, text)
			if text != wantText(n, l...) || err != api.OK || !slices.Equal(back, l) || err2 != api.OK {
				t.Fatal(n, l, text, err, back, err2)
			}
			off := offText(r, text, "AB., 01234+-\x00")
			want, wantErr := []api.Move(nil), api.OK
			for _, piece := range strings.Split(off, ", ") {
				m, is := known[piece]
				if !is && off != "" {
					want, wantErr = nil, api.ErrMove
					break
				} else if is {
					want = append(want, m)
				}
			}
			got, err := Parse(n, off)
			if !slices.Equal(got, want) || err != wantErr {
				t.Fatalf("%q: %v %d, not %v %d", off, got, err, want, wantErr)
			}
			if again, err := Print(n, got...); wantErr == api.OK && (again != off || err != api.OK) {
				t.Fatalf("%q: %q", off, again)
			}
			if wantErr == api.OK && off != "" {
				taken++
			}
		}
	}
	if taken < 100 {
		t.Error(taken)
	}
}

// TestP14_5Enabled: All without those that are not Open; After is a state of the network; who does not move stays.
func TestP14_5Enabled(t *testing.T) {
	r := source(6)
	for range 3000 {
		n := someNet(r)
		s := someState(r, n)
		l := All(n)
		l = slices.DeleteFunc(l, func(m api.Move) bool { return Open(n, s, m) != api.OK })
		if got := Enabled(n, s); !slices.Equal(got, l) {
			t.Fatal(n, s, got, l)
		}
		for _, m := range l {
			next, err := After(n, s, m)
			if err != api.OK || !state.Right(n, next) {
				t.Fatal(n, s, m, next, err)
			}
			for i := range n.Autos {
				if i != m.Auto && i != m.With-1 && next.Locs[i] != s.Locs[i] {
					t.Fatal(n, s, m, next)
				}
			}
			for _, e := range ends(n, m) {
				if s.Locs[e.auto] != e.From || next.Locs[e.auto] != e.To {
					t.Fatal(n, s, m, next)
				}
			}
		}
	}
}

// TestP14_6Committed: where somebody is committed, each move that is open has one that is.
func TestP14_6Committed(t *testing.T) {
	r := source(7)
	count := 0
	for range 5000 {
		n := someNet(r)
		s := someState(r, n)
		is := func(i int) bool { return n.Autos[i].Locs[s.Locs[i]].Kind == api.Committed }
		some := false
		for i := range n.Autos {
			some = some || is(i)
		}
		if Committed(n, s) != some {
			t.Fatal(n, s)
		}
		for _, m := range Enabled(n, s) {
			if some && !is(m.Auto) && (m.With == 0 || !is(m.With-1)) {
				t.Fatal(n, s, m)
			}
			if some {
				count++
			}
		}
	}
	if count < 500 {
		t.Error(count)
	}
}

// TestP14_8Once: each handshake stands once, as the one who sends has it; and each pair that makes one stands.
func TestP14_8Once(t *testing.T) {
	r := source(8)
	for range 2000 {
		n := someNet(r)
		seen := map[[4]int]int{}
		for _, m := range All(n) {
			if m.With == 0 {
				continue
			}
			h, o := n.Autos[m.Auto].Edges[m.Edge], n.Autos[m.With-1].Edges[m.Take]
			if !h.Send || o.Send || h.Chan != o.Chan || h.Chan == 0 || m.Auto == m.With-1 {
				t.Fatal(n, m)
			}
			seen[[4]int{m.Auto, m.Edge, m.With - 1, m.Take}]++
		}
		for i, a := range n.Autos {
			for j, h := range a.Edges {
				for k, b := range n.Autos {
					for l, o := range b.Edges {
						want := 0
						if i != k && h.Chan == o.Chan && h.Send && !o.Send {
							want = 1
						}
						if seen[[4]int{i, j, k, l}] != want {
							t.Fatal(n, i, j, k, l)
						}
					}
				}
			}
		}
	}
}

// greatest is a network with as many automata, locations, edges, variables and channels as may be; all edges from the first to the last location.
func greatest(channel func(auto, edge int) (int, bool)) api.Net {
	var n api.Net
	for i := range api.MaxChans {
		n.Chans = append(n.Chans, fmt.Sprint("c", i))
	}
	for i := range api.MaxVars {
		n.Vars = append(n.Vars, api.Variable{Name: fmt.Sprint("v", i), Lo: -api.MaxValue, Hi: api.MaxValue})
	}
	for i := range api.MaxParts {
		a := api.Auto{Name: fmt.Sprint("A", i)}
		for j := range api.MaxLocs {
			a.Locs = append(a.Locs, api.Loc{Name: fmt.Sprint("l", j)})
		}
		for j := range api.MaxEdges {
			e := api.Edge{To: api.MaxLocs - 1}
			e.Chan, e.Send = channel(i, j)
			e.Sets = []api.Set{{Var: 2*i + j%2, Expr: []api.Node{{Op: api.Num, N: j}}}}
			a.Edges = append(a.Edges, e)
		}
		n.Autos = append(n.Autos, a)
	}
	return n
}

// TestP14Greatest: as many of everything as may be.
func TestP14Greatest(t *testing.T) {
	n := greatest(func(auto, edge int) (int, bool) { return edge % 17, edge%17 > 0 && auto%2 == 0 })
	first, err := state.First(n)
	all := All(n)
	if !slices.Equal(all, wantAll(n)) || !slices.Equal(Enabled(n, first), all) || err != api.OK {
		t.Error(len(all), err)
	}
	last := api.Move{Auto: 6, Edge: 254, With: 8, Take: 254}
	next, err := After(n, first, last)
	if err != api.OK || next.Locs[6] != 63 || next.Locs[7] != 63 || next.Locs[5] != 0 || next.Vars[12] != 254 || next.Vars[14] != 254 || next.Vars[13] != 0 {
		t.Error(next, err)
	}
	if l := Enabled(n, next); slices.ContainsFunc(l, func(m api.Move) bool { return m.Auto > 5 || m.With > 6 }) || len(l) == 0 {
		t.Error(len(l))
	}
	text, err := Print(n, all...)
	if back, err2 := Parse(n, text); !slices.Equal(back, all) || err != api.OK || err2 != api.OK {
		t.Error(len(back), err, err2)
	}
	// All edges on one channel: as many handshakes as there can be.
	n = greatest(func(auto, edge int) (int, bool) { return 16, auto < 4 })
	if l := All(n); len(l) != 1<<20 || l[1<<20-1] != (api.Move{Auto: 3, Edge: 255, With: 8, Take: 255}) || l[1] != (api.Move{With: 5, Take: 1}) {
		t.Error(len(l))
	}
	if l := Enabled(n, next); len(l) != 4*2*256*256 {
		t.Error(len(l))
	}
}

// TestP14Deep: an edge with as many guards, sets and nodes as may be.
func TestP14Deep(t *testing.T) {
	n := said(t, "clock x; int n in 0 .. 999999 := 0; chan c; auto A { loc a; edge a -> a sync c!; } auto B { loc a; edge a -> a sync c?; }")
	for i := range n.Autos {
		e := &n.Autos[i].Edges[0]
		e.Guards = slices.Repeat([]api.Guard{{Clock: 1, Cmp: api.Lt, N: i}}, api.MaxGuards)
		e.Test = append(slices.Repeat([]api.Node{{Op: api.Not}}, 62), api.Node{Op: api.True})
		e.Sets = slices.Repeat([]api.Set{{Clock: 1, N: i}}, api.MaxSets)
		// 31 times n + 1 added up.
		sum := append(slices.Repeat([]api.Node{{Op: api.Add}}, 31), api.Node{Op: api.Var})
		e.Sets[3*i+2] = api.Set{Expr: append(sum, slices.Repeat([]api.Node{{Op: api.Num, N: 1}}, 31)...)}
		e.Sets[15] = e.Sets[3*i+2]
	}
	s := api.State{Locs: []int{0, 0}, Vars: []int{7}}
	m := api.Move{With: 2}
	opens(t, n, s, m, api.State{Locs: []int{0, 0}, Vars: []int{7 + 4*31}}, api.OK)
	guards, err := Guards(n, m)
	sets, err2 := Resets(n, m)
	if len(guards) != 32 || guards[15].N != 0 || guards[16].N != 1 || len(sets) != 28 || sets[13].N != 0 || sets[14].N != 1 || err != api.OK || err2 != api.OK {
		t.Error(guards, sets, err, err2)
	}
	s.Vars[0] = 999999 - 4*31 + 1
	opens(t, n, s, m, api.State{}, api.ErrGuard)
	n.Autos[1].Edges[0].Test = append([]api.Node{{Op: api.Not}}, n.Autos[1].Edges[0].Test...)
	s.Vars[0] = 7
	opens(t, n, s, m, api.State{}, api.ErrGuard)
}

// TestP14Wrong: networks that are not right, then states that are none, then moves.
func TestP14Wrong(t *testing.T) {
	good := richAt(0, 0, 0, 0, 2)
	bad := []api.State{{}, {Locs: []int{0, 0, 0}}, {Vars: []int{0, 2}}, {Locs: []int{0, 0}, Vars: []int{0, 2}}, {Locs: []int{0, 0, 0, 0}, Vars: []int{0, 2}}, {Locs: []int{0, 0, 0}, Vars: []int{0}}, {Locs: []int{0, 0, 0}, Vars: []int{0, 2, 0}}, richAt(3, 0, 0, 0, 2), richAt(-1, 0, 0, 0, 2), richAt(0, 3, 0, 0, 2), richAt(0, 0, 2, 0, 2), richAt(0, 0, 0, 4, 2), richAt(0, 0, 0, -1, 2), richAt(0, 0, 0, 0, 10), richAt(0, 0, 0, 0, -10), richAt(math.MaxInt, 0, 0, 0, 2), richAt(0, 0, 0, 0, math.MinInt)}
	check := func(n api.Net, s api.State, err api.Errno) {
		t.Helper()
		for _, m := range []api.Move{{Edge: 1}, {Auto: -1}, {With: 2}, {Auto: 9, Edge: 9, With: 9, Take: 9}} {
			if got := Open(n, s, m); got != err {
				t.Error(s, m, got, err)
			}
			if next, got := After(n, s, m); got != err || next.Locs != nil || next.Vars != nil {
				t.Error(s, m, next, got, err)
			}
		}
		if Committed(n, s) || len(Enabled(n, s)) != 0 {
			t.Error(s)
		}
	}
	for _, s := range bad {
		check(said(t, rich), s, api.ErrState)
	}
	for _, n := range wrongNets(t) {
		for _, s := range append(bad, good, richAt(2, 1, 0, 0, 2)) {
			check(n, s, api.ErrForm)
		}
		if l := All(n); len(l) != 0 {
			t.Error(l)
		}
		for _, m := range []api.Move{{Edge: 1}, {Auto: -1}, {With: 2}} {
			guards, err := Guards(n, m)
			sets, err2 := Resets(n, m)
			text, err3 := Print(n, m)
			if len(guards) != 0 || len(sets) != 0 || text != "" || err != api.ErrForm || err2 != api.ErrForm || err3 != api.ErrForm {
				t.Error(m, guards, sets, text, err, err2, err3)
			}
		}
		for _, text := range []string{"", "A.1", "?"} {
			if l, err := Parse(n, text); len(l) != 0 || err != api.ErrForm {
				t.Error(text, l, err)
			}
		}
		if text, err := Print(n); text != "" || err != api.ErrForm {
			t.Error(text, err)
		}
	}
}

// TestP3StaysAsItIs: what is handed in stays as it is, spare room too; what is answered is the caller's.
func TestP3StaysAsItIs(t *testing.T) {
	room := func() (api.Net, api.State, []api.Move) {
		n := said(t, rich)
		n.Autos = append(n.Autos, api.Auto{Name: "s1"})[:3]
		for i := range n.Autos {
			a := &n.Autos[i]
			a.Edges = append(a.Edges, api.Edge{From: 9})[:len(a.Edges)]
			for j := range a.Edges {
				e := &a.Edges[j]
				e.Guards = append(e.Guards, api.Guard{N: -1}, api.Guard{N: -2})[:len(e.Guards)]
				for k := range e.Sets {
					if e.Sets[k].Clock > 0 {
						e.Sets[k].Expr = make([]api.Node, 0, 3)
					}
				}
				e.Sets = append(e.Sets, api.Set{N: -3}, api.Set{N: -4})[:len(e.Sets)]
			}
		}
		s := api.State{Locs: append([]int{0, 0, 0}, 8, 8)[:3], Vars: append([]int{0, 2}, 9, 9)[:2]}
		return n, s, append([]api.Move{{Edge: 1}, {With: 2}}, api.Move{Auto: 5}, api.Move{Auto: 6})[:2]
	}
	wide := func(n api.Net, s api.State, l []api.Move) string {
		text := fmt.Sprint(n, n.Autos[:4], s, s.Locs[:5], s.Vars[:4], l[:4])
		for _, a := range n.Autos {
			text += fmt.Sprint(a.Edges[:len(a.Edges)+1])
			for _, e := range a.Edges {
				text += fmt.Sprint(e.Guards[:len(e.Guards)+2], e.Sets[:len(e.Sets)+2])
				for _, s := range e.Sets {
					text += fmt.Sprint(s.Expr[:cap(s.Expr)])
				}
			}
		}
		return text
	}
	n, s, l := room()
	Open(n, s, l[1])
	Committed(n, s)
	text, _ := Print(n, l...)
	var answers []any
	for range 2 {
		next, _ := After(n, s, l[1])
		guards, _ := Guards(n, l[1])
		sets, _ := Resets(n, l[1])
		alone, _ := After(n, s, l[0])
		taken, _ := Guards(n, l[0])
		set, _ := Resets(n, l[0])
		read, _ := Parse(n, text)
		answers = append(answers, next, guards, sets, Enabled(n, s), All(n), alone, taken, set, read)
	}
	if shared(append(answers, n, s, l)...) {
		t.Error("shared")
	}
	for _, a := range answers {
		switch x := a.(type) {
		case api.State:
			for i := range x.Locs[:cap(x.Locs)] {
				x.Locs[:cap(x.Locs)][i] = -7
			}
			for i := range x.Vars[:cap(x.Vars)] {
				x.Vars[:cap(x.Vars)][i] = -7
			}
		case []api.Guard:
			clear(x[:cap(x)])
		case []api.Set:
			for _, s := range x {
				_ = append(s.Expr, api.Node{N: 77})
			}
			clear(x[:cap(x)])
		case []api.Move:
			clear(x[:cap(x)])
		}
	}
	m, o, k := room()
	if wide(n, s, l) != wide(m, o, k) {
		t.Error(wide(n, s, l))
	}
}

// TestP1Any: nothing panics, whatever it is given.
func TestP1Any(t *testing.T) {
	r := source(9)
	any := func() int { return wild[r.IntN(len(wild))] }
	row := func() []int {
		var l []int
		for range r.IntN(4) {
			l = append(l, any())
		}
		return l
	}
	nets := append(wrongNets(t), said(t, rich), said(t, rich), said(t, "auto A { loc a; }"))
	for range 10000 {
		n := nets[r.IntN(len(nets))]
		s := api.State{Locs: row(), Vars: row()}
		m := api.Move{Auto: any(), Edge: any(), With: any(), Take: any()}
		err := Open(n, s, m)
		_, err2 := After(n, s, m)
		if err != err2 || !net.Right(n) && err != api.ErrForm || net.Right(n) && !state.Right(n, s) && err != api.ErrState {
			t.Fatal(n, s, m, err, err2)
		}
		Enabled(n, s)
		Committed(n, s)
		Guards(n, m)
		Resets(n, m)
		text, _ := Print(n, m)
		Parse(n, text+" ")
	}
}
