package state

import (
	"encoding/binary"
	"fmt"
	"math"
	"math/rand/v2"
	"reflect"
	"slices"
	"strings"
	"testing"

	"gnomon/api"
	"gnomon/parse"
)

// said is the network that a text says.
func said(t testing.TB, s string) api.Net {
	t.Helper()
	n, err, at := parse.Net(s)
	if err != api.OK {
		t.Fatal(s, err, at)
	}
	return n
}

// small is the network of the document's examples.
const small = "clock x; auto A { loc a inv x <= 5; loc b; edge a -> b when x >= 3 do x := 0; }"

// rich has something of everything, and names that begin alike.
const rich = `clock x, y; int n in -1 .. 3 := 0; int nn in 250 .. 260 := 257; int m in -3 .. -3 := -3; chan c;
	auto A { loc a inv x <= 5 && y < 7; loc aa urgent inv y == 2; loc b committed; edge a -> b when n < 2 sync c! do n := n + 1; }
	auto AA { loc a inv y >= 1; loc A; edge a -> A sync c?; }`

// greatest is a network with as many of everything as may be, and the longest names.
func greatest() api.Net {
	long := func(head string, i int) string { return fmt.Sprintf("%s%0*d", head, api.MaxName-len(head), i) }
	var n api.Net
	for i := range api.MaxClocks {
		n.Clocks = append(n.Clocks, long("x", i))
	}
	for i := range api.MaxChans {
		n.Chans = append(n.Chans, long("c", i))
	}
	for i := range api.MaxVars {
		n.Vars = append(n.Vars, api.Variable{Name: long("v", i), Lo: -api.MaxValue, Hi: api.MaxValue, Init: i})
	}
	for i := range api.MaxParts {
		a := api.Auto{Name: long("A", i), Edges: slices.Repeat([]api.Edge{{To: api.MaxLocs - 1, Chan: 1 + i, Send: i < 4}}, api.MaxEdges)}
		for j := range api.MaxLocs {
			a.Locs = append(a.Locs, api.Loc{Name: long("l", j), Inv: slices.Repeat([]api.Guard{{Clock: 1 + i, Cmp: api.Le, N: j}}, api.MaxGuards)})
		}
		n.Autos = append(n.Autos, a)
	}
	return n
}

// wrongNets are networks that are not right, each by another one of the errors of net.Whole.
func wrongNets(t testing.TB) []api.Net {
	l := []api.Net{{}, {Clocks: []string{"x"}}}
	for _, change := range []func(n *api.Net){
		func(n *api.Net) { n.Autos[1].Locs = nil },
		func(n *api.Net) { n.Clocks = slices.Repeat(n.Clocks, 5) },
		func(n *api.Net) { n.Autos[0].Name = "n" },
		func(n *api.Net) { n.Autos[0].Locs[1].Name = "a" },
		func(n *api.Net) { n.Vars[0].Init = 4 },
		func(n *api.Net) { n.Vars[0].Hi = api.MaxValue + 1 },
		func(n *api.Net) { n.Autos[0].Locs[2].Kind = 3 },
		func(n *api.Net) { n.Autos[0].Edges[0].To = 3 },
		func(n *api.Net) { n.Autos[0].Edges[0].Chan = 2 },
		func(n *api.Net) { n.Autos[0].Locs[0].Inv[0].Clock = 3 },
		func(n *api.Net) { n.Autos[0].Locs[0].Inv[0].Cmp = 0 },
		func(n *api.Net) { n.Autos[0].Edges[0].Test = n.Autos[0].Edges[0].Test[1:] },
		func(n *api.Net) { n.Autos[0].Edges[0].Sets[0].Var = 3 },
	} {
		n := said(t, rich)
		change(&n)
		l = append(l, n)
	}
	return l
}

// rows are all rows of numbers from those of lists, the last place changing first.
func rows(lists ...[]int) [][]int {
	if len(lists) == 0 {
		return [][]int{nil}
	}
	var out [][]int
	for _, head := range rows(lists[:len(lists)-1]...) {
		for _, k := range lists[len(lists)-1] {
			out = append(out, append(slices.Clone(head), k))
		}
	}
	return out
}

// states are all states of a network, by locations, then by values.
func states(n api.Net) []api.State {
	var locs, vars [][]int
	for _, a := range n.Autos {
		var l []int
		for i := range a.Locs {
			l = append(l, i)
		}
		locs = append(locs, l)
	}
	for _, v := range n.Vars {
		var l []int
		for k := v.Lo; k <= v.Hi; k++ {
			l = append(l, k)
		}
		vars = append(vars, l)
	}
	var out []api.State
	for _, l := range rows(locs...) {
		for _, v := range rows(vars...) {
			out = append(out, api.State{Locs: slices.Clone(l), Vars: slices.Clone(v)})
		}
	}
	return out
}

// book has the states of a network by what stands for them.
type book map[string]api.State

func wantText(n api.Net, s api.State) string {
	var locs, vars []string
	for i, l := range s.Locs {
		locs = append(locs, fmt.Sprintf("%s.%s", n.Autos[i].Name, n.Autos[i].Locs[l].Name))
	}
	for i, k := range s.Vars {
		vars = append(vars, fmt.Sprintf("%s=%d", n.Vars[i].Name, k))
	}
	return strings.Join(locs, ",") + ";" + strings.Join(vars, ",")
}

func wantKey(n api.Net, s api.State) string {
	var b []byte
	for _, l := range s.Locs {
		b = append(b, uint8(l))
	}
	for i, k := range s.Vars {
		b = binary.BigEndian.AppendUint32(b, uint32(k-n.Vars[i].Lo))
	}
	return string(b)
}

// alike tells whether two states are the same, an empty list as nil.
func alike(a, b api.State) bool { return fmt.Sprint(a) == fmt.Sprint(b) }

// rank is a row in which an end is less than all numbers.
func rank(row []int) []float64 {
	var l []float64
	for _, k := range row {
		l = append(l, float64(k))
	}
	return append(l, math.Inf(-1))
}

// wantCompare holds the rows against each other as lists of which no end is one of the other.
func wantCompare(a, b api.State) int {
	if c := slices.Compare(rank(a.Locs), rank(b.Locs)); c != 0 {
		return c
	}
	return slices.Compare(rank(a.Vars), rank(b.Vars))
}

func someGuards(r *rand.Rand, clocks int) []api.Guard {
	var l []api.Guard
	for range r.IntN(4) {
		if clocks > 0 {
			l = append(l, api.Guard{Clock: 1 + r.IntN(clocks), Other: r.IntN(clocks + 1), Cmp: api.Cmp(1 + r.IntN(5)), N: r.IntN(12) - 3})
		}
	}
	return l
}

// someNet is a network of a few states.
func someNet(r *rand.Rand) api.Net {
	n := api.Net{Clocks: []string{"x", "y", "z"}[:r.IntN(4)]}
	for _, name := range []string{"n", "nn", "n_1"}[:r.IntN(4)] {
		lo := []int{-api.MaxValue, -12, -2, -1, 0, 1, 9, api.MaxValue - 3}[r.IntN(8)]
		init := lo + r.IntN(2)
		n.Vars = append(n.Vars, api.Variable{Name: name, Lo: lo, Init: init, Hi: init + r.IntN(3)})
	}
	for _, name := range []string{"A", "AA", "A1"}[:1+r.IntN(3)] {
		a := api.Auto{Name: name}
		for _, loc := range []string{"a", "A", "aa", "n"}[:1+r.IntN(4)] {
			a.Locs = append(a.Locs, api.Loc{Name: loc, Kind: api.LocKind(max(0, r.IntN(5)-2)), Inv: someGuards(r, len(n.Clocks))})
		}
		n.Autos = append(n.Autos, a)
	}
	return n
}

// wild are numbers that no state has, or some have.
var wild = []int{math.MinInt, math.MinInt + 1, -1 << 32, -api.MaxValue - 1, -256, -2, -1, 0, 1, 2, 3, 255, 256, 257, api.MaxValue + 1, 1 << 32, 1<<32 + 1, math.MaxInt}

// offRow is a row with something changed: an element more or less, or another number.
func offRow(r *rand.Rand, row []int) []int {
	row = slices.Clone(row)
	switch k := r.IntN(6); {
	case k == 0:
		return append(row, wild[r.IntN(len(wild))])
	case len(row) == 0:
		return row
	case k == 1:
		return row[:len(row)-1]
	case k == 2:
		row[r.IntN(len(row))]++
	case k == 3:
		row[r.IntN(len(row))]--
	case k == 4:
		row[r.IntN(len(row))] = wild[r.IntN(len(wild))]
	}
	return row
}

// offText is a text with a byte put in, left out or changed.
func offText(r *rand.Rand, s, signs string) string {
	sign := signs[r.IntN(len(signs))]
	at := r.IntN(len(s) + 1)
	switch k := r.IntN(3); {
	case k == 0 || at == len(s):
		return s[:at] + string([]byte{sign}) + s[at:]
	case k == 1:
		return s[:at] + s[at+1:]
	}
	return s[:at] + string([]byte{sign}) + s[at+1:]
}

// lies tells whether a list lies in another one, spare room of both included.
func lies[A, B any](a []A, b []B) bool {
	if cap(a) == 0 || cap(b) == 0 {
		return false
	}
	from := func(v reflect.Value) uintptr { return v.Pointer() }
	to := func(v reflect.Value) uintptr {
		return v.Pointer() + uintptr(v.Cap())*v.Type().Elem().Size()
	}
	x, y := reflect.ValueOf(a), reflect.ValueOf(b)
	return from(x) < to(y) && from(y) < to(x)
}
