package state

import (
	"bytes"
	"encoding/hex"
	"fmt"
	"math"
	"math/rand/v2"
	"slices"
	"strings"
	"testing"

	"gnomon/api"
)

func source(seed uint64) *rand.Rand { return rand.New(rand.NewPCG(13, seed)) }

func at(locs ...int) api.State { return api.State{Locs: locs} }

func (b book) add(t *testing.T, by string, s api.State) {
	t.Helper()
	if o, there := b[by]; there {
		t.Fatalf("%q stands for %v and %v", by, o, s)
	}
	b[by] = s
}

// refuses holds all calls to the error of a network, or of a state of it.
func refuses(t *testing.T, n api.Net, s api.State, err api.Errno) {
	t.Helper()
	if Right(n, s) || Stays(n, s) {
		t.Error("taken", s)
	}
	if b, got := Key(n, s); len(b) != 0 || got != err {
		t.Error("key", s, b, got)
	}
	if text, got := Print(n, s); text != "" || got != err {
		t.Error("print", s, text, got)
	}
	if l, got := Invariants(n, s); len(l) != 0 || got != err {
		t.Error("invariants", s, l, got)
	}
}

func refusesText(t *testing.T, n api.Net, text string, err api.Errno) {
	t.Helper()
	if s, got := Parse(n, text); got != err || s.Locs != nil || s.Vars != nil {
		t.Errorf("%q: %v %d", text, s, got)
	}
}

func refusesBytes(t *testing.T, n api.Net, b []byte, err api.Errno) {
	t.Helper()
	if s, got := Of(n, b); got != err || s.Locs != nil || s.Vars != nil {
		t.Errorf("%x: %v %d", b, s, got)
	}
}

// TestP13Examples: those of the chapter.
func TestP13Examples(t *testing.T) {
	n := said(t, small)
	for _, x := range []struct {
		net, text, key string
		count          int
	}{{small, "A.a;", "00", 2}, {"int n in -1 .. 3 := 0;" + small, "A.a;n=0", "0000000001", 10}} {
		n = said(t, x.net)
		s, err := First(n)
		if err != api.OK {
			t.Fatal(err)
		}
		text, err := Print(n, s)
		key, errKey := Key(n, s)
		if text != x.text || err != api.OK || hex.EncodeToString(key) != x.key || errKey != api.OK || Count(n) != x.count {
			t.Error(text, err, key, errKey, Count(n))
		}
	}
}

// TestP13_1First: all first locations, all first values.
func TestP13_1First(t *testing.T) {
	s, err := First(said(t, rich))
	if !alike(s, api.State{Locs: []int{0, 0}, Vars: []int{0, 257, -3}}) || err != api.OK {
		t.Error(s, err)
	}
	s, err = First(said(t, "auto A { loc a; }"))
	if !alike(s, at(0)) || err != api.OK {
		t.Error(s, err)
	}
	r := source(1)
	for range 2000 {
		n := someNet(r)
		s, err := First(n)
		if err != api.OK || !Right(n, s) || len(s.Locs) != len(n.Autos) || len(s.Vars) != len(n.Vars) || slices.Max(s.Locs) != 0 || slices.Min(s.Locs) != 0 {
			t.Fatal(n, s, err)
		}
		for i, v := range n.Vars {
			if s.Vars[i] != v.Init {
				t.Fatal(n, s)
			}
		}
	}
	s, err = First(greatest())
	if len(s.Locs) != api.MaxParts || len(s.Vars) != api.MaxVars || s.Vars[15] != 15 || err != api.OK {
		t.Error(s, err)
	}
}

// TestP13_1Right: rows too short, too long, nil, a number just outside, below 0, or far away.
func TestP13_1Right(t *testing.T) {
	n := said(t, rich)
	for _, s := range []api.State{
		{Locs: []int{0, 0}, Vars: []int{0, 257, -3}}, {Locs: []int{2, 1}, Vars: []int{3, 260, -3}}, {Locs: []int{0, 1}, Vars: []int{-1, 250, -3}},
	} {
		if !Right(n, s) {
			t.Error(s)
		}
	}
	for _, s := range []api.State{
		{}, {Locs: []int{0, 0}}, {Vars: []int{0, 257, -3}}, {Locs: []int{}, Vars: []int{}},
		{Locs: []int{0}, Vars: []int{0, 257, -3}}, {Locs: []int{0, 0, 0}, Vars: []int{0, 257, -3}},
		{Locs: []int{0, 0}, Vars: []int{0, 257}}, {Locs: []int{0, 0}, Vars: []int{0, 257, -3, 0}}, {Locs: []int{0, 0, 0}, Vars: []int{257, -3}}, {Locs: []int{0}, Vars: []int{0, 0, 257, -3}},
		{Locs: []int{3, 0}, Vars: []int{0, 257, -3}}, {Locs: []int{-1, 0}, Vars: []int{0, 257, -3}}, {Locs: []int{0, 2}, Vars: []int{0, 257, -3}}, {Locs: []int{0, -1}, Vars: []int{0, 257, -3}},
		{Locs: []int{256, 0}, Vars: []int{0, 257, -3}}, {Locs: []int{1 << 32, 0}, Vars: []int{0, 257, -3}}, {Locs: []int{math.MinInt, 0}, Vars: []int{0, 257, -3}}, {Locs: []int{0, math.MaxInt}, Vars: []int{0, 257, -3}},
		{Locs: []int{0, 0}, Vars: []int{4, 257, -3}}, {Locs: []int{0, 0}, Vars: []int{-2, 257, -3}}, {Locs: []int{0, 0}, Vars: []int{0, 249, -3}}, {Locs: []int{0, 0}, Vars: []int{0, 261, -3}}, {Locs: []int{0, 0}, Vars: []int{0, 257, -2}}, {Locs: []int{0, 0}, Vars: []int{0, 257, -4}}, {Locs: []int{0, 0}, Vars: []int{0, 257, 3}},
		{Locs: []int{0, 0}, Vars: []int{1 << 32, 257, -3}}, {Locs: []int{0, 0}, Vars: []int{math.MinInt, 257, -3}}, {Locs: []int{0, 0}, Vars: []int{0, 257, math.MaxInt}},
	} {
		refuses(t, n, s, api.ErrState)
	}
}

// TestP13_1RightAll: just those that are gone through place by place.
func TestP13_1RightAll(t *testing.T) {
	r := source(2)
	for range 300 {
		n := someNet(r)
		all := states(n)
		there := book{}
		for _, s := range all {
			there.add(t, fmt.Sprint(s), s)
			if !Right(n, s) {
				t.Fatal(n, s)
			}
		}
		for range 100 {
			s := all[r.IntN(len(all))]
			s = api.State{Locs: offRow(r, s.Locs), Vars: offRow(r, s.Vars)}
			if _, is := there[fmt.Sprint(s)]; is != Right(n, s) {
				t.Fatal(n, s, is)
			} else if !is {
				refuses(t, n, s, api.ErrState)
			}
		}
	}
}

// anyStates are states with rows of all lengths up to 2.
func anyStates() []api.State {
	some := []int{-1, 0, math.MaxInt}
	var l [][]int
	for k := range 3 {
		l = append(l, rows(slices.Repeat([][]int{some}, k)...)...)
	}
	var out []api.State
	for _, a := range l {
		for _, b := range l {
			out = append(out, api.State{Locs: a, Vars: b})
		}
	}
	return out
}

// TestP13_1Compare: by locations, then by values; where one row ends first it comes first.
func TestP13_1Compare(t *testing.T) {
	for _, x := range []struct {
		a, b api.State
		want int
	}{
		{api.State{}, api.State{}, 0}, {api.State{}, api.State{Locs: []int{}, Vars: []int{}}, 0}, {at(1, 2), at(1, 2), 0},
		{api.State{}, at(-5), -1}, {at(1), at(1, -7), -1}, {at(2), at(1, 9), 1}, {at(0, 9), at(1), -1}, {at(math.MinInt), at(math.MaxInt), -1}, {at(-1), at(0), -1}, {at(9), at(10), -1},
		{api.State{Locs: []int{1}, Vars: []int{9}}, api.State{Locs: []int{2}, Vars: []int{0}}, -1}, {api.State{Locs: []int{1}, Vars: []int{9}}, api.State{Locs: []int{1}, Vars: []int{0}}, 1},
		{api.State{Locs: []int{1}, Vars: []int{9}}, api.State{Locs: []int{1, 0}}, -1}, {api.State{Vars: []int{9}}, at(0), -1}, {api.State{Locs: []int{1}, Vars: []int{1}}, api.State{Locs: []int{1}, Vars: []int{1, -1}}, -1},
		{api.State{Locs: []int{1, 2}}, api.State{Locs: []int{1}, Vars: []int{2}}, 1}, {api.State{Vars: []int{math.MaxInt}}, api.State{Vars: []int{math.MinInt}}, 1},
	} {
		if Compare(x.a, x.b) != x.want || Compare(x.b, x.a) != -x.want || Same(x.a, x.b) != (x.want == 0) || Same(x.b, x.a) != (x.want == 0) {
			t.Error(x.a, x.b, Compare(x.a, x.b), Compare(x.b, x.a), Same(x.a, x.b))
		}
	}
	l := anyStates()
	for _, a := range l {
		for _, b := range l {
			want := wantCompare(a, b)
			if Compare(a, b) != want || Same(a, b) != (want == 0) {
				t.Fatal(a, b, Compare(a, b), Same(a, b), want)
			}
		}
	}
}

// TestP13_6Order: Compare is an order; 0 just if they are the same.
func TestP13_6Order(t *testing.T) {
	l := anyStates()
	for _, a := range l {
		for _, b := range l {
			if Compare(a, b) != -Compare(b, a) || (Compare(a, b) == 0) != alike(a, b) || Same(a, b) != alike(a, b) {
				t.Fatal(a, b, Compare(a, b), Compare(b, a))
			}
		}
	}
	r := source(3)
	for range 200000 {
		a, b, c := l[r.IntN(len(l))], l[r.IntN(len(l))], l[r.IntN(len(l))]
		if Compare(a, b) <= 0 && Compare(b, c) <= 0 && Compare(a, c) > 0 {
			t.Fatal(a, b, c)
		}
	}
}

// TestP13_2KeyOf: all states, their bytes there and back; and bytes that are those of none.
func TestP13_2KeyOf(t *testing.T) {
	r := source(4)
	for range 200 {
		n := someNet(r)
		all := states(n)
		keys := book{}
		for _, s := range all {
			b, err := Key(n, s)
			if string(b) != wantKey(n, s) || err != api.OK {
				t.Fatal(n, s, b, err)
			}
			if back, err := Of(n, b); !alike(back, s) || err != api.OK {
				t.Fatal(n, s, back, err)
			}
			keys.add(t, string(b), s)
		}
		for range 300 {
			b := []byte(offText(r, wantKey(n, all[r.IntN(len(all))]), "\x00\x01\x02\x03\x04\x05\x7f\x80\xff"))
			want, is := keys[string(b)]
			if !is {
				refusesBytes(t, n, b, api.ErrState)
			} else if s, err := Of(n, b); !alike(s, want) || err != api.OK {
				t.Fatal(n, b, s, err)
			}
		}
	}
}

// TestP13_2Bytes: the edges, one by one.
func TestP13_2Bytes(t *testing.T) {
	n := said(t, rich)
	for text, want := range map[string]api.State{
		"0000000000010000000700000000": {Locs: []int{0, 0}, Vars: []int{0, 257, -3}},
		"0201000000040000000a00000000": {Locs: []int{2, 1}, Vars: []int{3, 260, -3}},
		"0000000000000000000000000000": {Locs: []int{0, 0}, Vars: []int{-1, 250, -3}},
		"0300000000010000000700000000": {}, "0002000000010000000700000000": {}, "ff00000000010000000700000000": {},
		"0000000000050000000700000000": {}, "0000000000010000000b00000000": {}, "0000000000010000000700000001": {}, "0000ffffffff0000000700000000": {}, "0000800000000000000700000000": {}, "0000000000010100000700000000": {}, "0000010000010000000700000000": {}, "0000000100010000000700000000": {},
		"00000000000100000007000000": {}, "000000000001000000070000000000": {}, "000000000000010000000700000000": {}, "": {}, "00": {}, "0000": {},
	} {
		b, _ := hex.DecodeString(text)
		if want.Locs == nil {
			refusesBytes(t, n, b, api.ErrState)
		} else if s, err := Of(n, b); !alike(s, want) || err != api.OK {
			t.Error(text, s, err)
		} else if k, err := Key(n, s); !bytes.Equal(k, b) || err != api.OK {
			t.Error(text, k, err)
		}
	}
	refusesBytes(t, n, nil, api.ErrState)
	one := said(t, "auto A { loc a; }")
	if s, err := Of(one, []byte{0}); !alike(s, at(0)) || err != api.OK {
		t.Error(s, err)
	}
	for _, b := range [][]byte{nil, {}, {1}, {255}, {0, 0}, {0, 0, 0, 0, 0}} {
		refusesBytes(t, one, b, api.ErrState)
	}
}

// TestP13_2PrintParse: all states, their texts there and back; and texts that are those of none.
func TestP13_2PrintParse(t *testing.T) {
	r := source(5)
	for range 200 {
		n := someNet(r)
		all := states(n)
		texts := book{}
		for _, s := range all {
			text, err := Print(n, s)
			if text != wantText(n, s) || err != api.OK {
				t.Fatal(n, s, text, err)
			}
			if back, err := Parse(n, text); !alike(back, s) || err != api.OK {
				t.Fatal(n, s, back, err)
			}
			texts.add(t, text, s)
		}
		for range 300 {
			text := offText(r, wantText(n, all[r.IntN(len(all))]), "aAn_,;.=-+ 0123456789\x00\n")
			want, is := texts[text]
			if !is {
				refusesText(t, n, text, api.ErrState)
			} else if s, err := Parse(n, text); !alike(s, want) || err != api.OK {
				t.Fatal(n, text, s, err)
			}
		}
	}
}

// TestP13_2Texts: what is none, one by one.
func TestP13_2Texts(t *testing.T) {
	n := said(t, rich)
	for text, want := range map[string]api.State{
		"A.a,AA.a;n=0,nn=257,m=-3":   {Locs: []int{0, 0}, Vars: []int{0, 257, -3}},
		"A.b,AA.A;n=3,nn=260,m=-3":   {Locs: []int{2, 1}, Vars: []int{3, 260, -3}},
		"A.aa,AA.a;n=-1,nn=250,m=-3": {Locs: []int{1, 0}, Vars: []int{-1, 250, -3}},
	} {
		if s, err := Parse(n, text); !alike(s, want) || err != api.OK {
			t.Error(text, s, err)
		}
		if back, err := Print(n, want); back != text || err != api.OK {
			t.Error(text, back, err)
		}
	}
	for _, text := range []string{
		"", ";", ",", ",;,,", "A.a,AA.a", "A.a,AA.a;", ";n=0,nn=257,m=-3", "A.a,AA.a,n=0,nn=257,m=-3", "A.a;AA.a;n=0,nn=257,m=-3",
		"A.a,AA.a;n=0,nn=257,m=-3;", "A.a,AA.a;n=0,nn=257,m=-3,", "A.a,AA.a;,n=0,nn=257,m=-3", "A.a,AA.a;;n=0,nn=257,m=-3", "A.a,AA.a,;n=0,nn=257,m=-3", ",A.a,AA.a;n=0,nn=257,m=-3", "A.a,,AA.a;n=0,nn=257,m=-3", "A.a,AA.a;n=0,,nn=257,m=-3",
		" A.a,AA.a;n=0,nn=257,m=-3", "A.a, AA.a;n=0,nn=257,m=-3", "A.a,AA.a; n=0,nn=257,m=-3", "A.a,AA.a;n=0, nn=257,m=-3", "A.a,AA.a;n =0,nn=257,m=-3", "A.a,AA.a;n= 0,nn=257,m=-3", "A.a,AA.a;n=0,nn=257,m=-3 ", "A.a,AA.a;n=0,nn=257,m=-3\n", "A.a,AA.a;n=0,nn=257,m=- 3",
		"A.a,AA.a;n=00,nn=257,m=-3", "A.a,AA.a;n=-0,nn=257,m=-3", "A.a,AA.a;n=+0,nn=257,m=-3", "A.a,AA.a;n=+1,nn=257,m=-3", "A.a,AA.a;n=01,nn=257,m=-3", "A.a,AA.a;n=0,nn=257,m=-03", "A.a,AA.a;n=,nn=257,m=-3", "A.a,AA.a;n=-,nn=257,m=-3", "A.a,AA.a;n=0x1,nn=257,m=-3", "A.a,AA.a;n=0,nn=2_57,m=-3", "A.a,AA.a;n=0,nn=257,m=-3.0", "A.a,AA.a;n=\u0663,nn=257,m=-3",
		"A.a,AA.a;n=4,nn=257,m=-3", "A.a,AA.a;n=-2,nn=257,m=-3", "A.a,AA.a;n=0,nn=249,m=-3", "A.a,AA.a;n=0,nn=261,m=-3", "A.a,AA.a;n=0,nn=257,m=-4", "A.a,AA.a;n=0,nn=257,m=-2", "A.a,AA.a;n=0,nn=257,m=3", "A.a,AA.a;n=18446744073709551616,nn=257,m=-3", "A.a,AA.a;n=4294967296,nn=257,m=-3", "A.a,AA.a;n=9223372036854775808,nn=257,m=-3",
		"A.a,AA.aa;n=0,nn=257,m=-3", "A.A,AA.a;n=0,nn=257,m=-3", "A.,AA.a;n=0,nn=257,m=-3", ".a,AA.a;n=0,nn=257,m=-3", "A,AA.a;n=0,nn=257,m=-3", "a,AA.a;n=0,nn=257,m=-3", "Aa,AA.a;n=0,nn=257,m=-3", "A..a,AA.a;n=0,nn=257,m=-3", "A.a.a,AA.a;n=0,nn=257,m=-3", "A.c,AA.a;n=0,nn=257,m=-3", "A=a,AA.a;n=0,nn=257,m=-3",
		"AA.a,A.a;n=0,nn=257,m=-3", "A.a,A.a;n=0,nn=257,m=-3", "AA.a,AA.a;n=0,nn=257,m=-3", "n.a,AA.a;n=0,nn=257,m=-3", "a.a,AA.a;n=0,nn=257,m=-3", "A.a;n=0,nn=257,m=-3", "A.a,AA.a,AA.a;n=0,nn=257,m=-3",
		"A.a,AA.a;nn=257,n=0,m=-3", "A.a,AA.a;n=0,n=0,m=-3", "A.a,AA.a;n=0,nn=257", "A.a,AA.a;n=0,nn=257,m=-3,m=-3", "A.a,AA.a;n=0,nn=257,x=-3", "A.a,AA.a;n=0,nn=257,M=-3", "A.a,AA.a;n=0,nn=257,=-3", "A.a,AA.a;n=0,nn=257,m-3", "A.a,AA.a;n=0,nn=257,m==-3", "A.a,AA.a;n=0,nn=257,m:=-3", "A.a,AA.a;n.0,nn=257,m=-3", "A.a,AA.a;n=0;nn=257,m=-3",
		strings.Repeat(",", 1<<16), strings.Repeat("A.a,", 1<<16), "A.a,AA.a;n=" + strings.Repeat("0", 1<<16), "A.a,AA.a;n=" + strings.Repeat("9", 1<<16) + ",nn=257,m=-3",
	} {
		refusesText(t, n, text, api.ErrState)
	}
	bare := said(t, "auto A { loc a; loc b; }")
	if s, err := Parse(bare, "A.b;"); !alike(s, at(1)) || err != api.OK {
		t.Error(s, err)
	}
	for _, text := range []string{"", "A.b", "A.b,", "A.b;;", "A.b;,", "A.b; ", "A.b;=", "A.b;n=0", ";", "A.b,A.b;", ";A.b", "A.b\n;", "b;", "A.0;"} {
		refusesText(t, bare, text, api.ErrState)
	}
}

// TestP13_3Stays: time may pass just where all locations are plain.
func TestP13_3Stays(t *testing.T) {
	n := said(t, "auto A { loc a; loc b urgent; loc c committed; loc d; } auto B { loc a urgent; loc b; loc c committed; }")
	for a := range 4 {
		for b := range 3 {
			if want := (a == 0 || a == 3) && b == 1; Stays(n, at(a, b)) != want {
				t.Error(a, b, want)
			}
		}
	}
	for _, s := range []api.State{{}, at(0), at(0, 1, 1), at(0, 3), at(4, 1), at(-1, 1), {Locs: []int{0, 1}, Vars: []int{0}}} {
		refuses(t, n, s, api.ErrState)
	}
	r := source(6)
	for range 300 {
		n := someNet(r)
		for _, s := range states(n) {
			want := true
			for i, l := range s.Locs {
				want = want && n.Autos[i].Locs[l].Kind == api.Plain
			}
			if Stays(n, s) != want {
				t.Fatal(n, s, want)
			}
		}
	}
}

// TestP13_3Invariants: those of the locations where the automata are, automaton by automaton, in their order.
func TestP13_3Invariants(t *testing.T) {
	n := said(t, rich)
	for _, x := range []struct {
		a, b int
		want string
	}{{0, 0, "[{1 0 2 5} {2 0 1 7} {2 0 4 1}]"}, {1, 0, "[{2 0 3 2} {2 0 4 1}]"}, {2, 0, "[{2 0 4 1}]"}, {0, 1, "[{1 0 2 5} {2 0 1 7}]"}, {2, 1, "[]"}} {
		l, err := Invariants(n, api.State{Locs: []int{x.a, x.b}, Vars: []int{0, 257, -3}})
		if fmt.Sprint(l) != x.want || err != api.OK {
			t.Error(x, l, err)
		}
	}
	r := source(7)
	for range 300 {
		n := someNet(r)
		for _, s := range states(n) {
			var want []api.Guard
			for i, a := range n.Autos {
				want = append(want, a.Locs[s.Locs[i]].Inv...)
			}
			if l, err := Invariants(n, s); !slices.Equal(l, want) || err != api.OK {
				t.Fatal(n, s, l, err)
			}
		}
	}
	all := greatest()
	s, _ := First(all)
	if l, err := Invariants(all, s); len(l) != api.MaxParts*api.MaxGuards || l[127].Clock != 8 || err != api.OK {
		t.Error(len(l), err)
	}
}

// TestP13_3Count: as many as there are, of small networks.
func TestP13_3Count(t *testing.T) {
	r := source(8)
	for range 1000 {
		n := someNet(r)
		if want := len(states(n)); Count(n) != want {
			t.Fatal(n, Count(n), want)
		}
	}
	if Count(said(t, "auto A { loc a; }")) != 1 || Count(said(t, rich)) != 3*2*5*11 {
		t.Error(Count(said(t, rich)))
	}
}

// product is a network with so many values of its variables, one by one.
func product(locs int, values ...int) api.Net {
	n := api.Net{Autos: []api.Auto{{Name: "A"}}}
	for i := range locs {
		n.Autos[0].Locs = append(n.Autos[0].Locs, api.Loc{Name: fmt.Sprint("l", i)})
	}
	for i, k := range values {
		n.Vars = append(n.Vars, api.Variable{Name: fmt.Sprint("v", i), Lo: -api.MaxValue, Init: -api.MaxValue, Hi: k - 1 - api.MaxValue})
	}
	return n
}

// TestP13_3CountMany: as many as an int holds, one less and more, and more still.
func TestP13_3CountMany(t *testing.T) {
	const two = 1 << 20
	for _, x := range []struct {
		n    api.Net
		want int
	}{
		{product(7, 7, 73, 127, 337, 92737, 649657), math.MaxInt}, {product(1, 649657, 92737, 337, 127, 73, 49), math.MaxInt},
		{product(7, 7, 73, 127, 337, 92737, 649656), math.MaxInt / 649657 * 649656}, {product(7, 7, 73, 127, 337, 92737, 649658), math.MaxInt},
		{product(4, two, two, two), 1 << 62}, {product(7, two, two, two), 7 << 60}, {product(8, two, two, two), math.MaxInt}, {product(9, two, two, two), math.MaxInt}, {product(16, two, two, two), math.MaxInt}, {product(32, two, two, two), math.MaxInt},
		{product(1, two, two, two, 8), math.MaxInt}, {product(1, two, two, two, 7), 7 << 60}, {product(64, 1<<18, 1<<20, 1<<20), math.MaxInt}, {product(64, 1<<18, 1<<20, 1<<20, 1, 1, 3), math.MaxInt}, {product(1, slices.Repeat([]int{1<<21 + 1}, 3)...), math.MaxInt}, {product(2, 1<<21+1, 1<<21+1), 2 * (1<<21 + 1) * (1<<21 + 1)},
		// The last number is as great as may be, and yet there are 7 less than an int holds.
		{product(1, 1311753, 1888255, 465465, 8), math.MaxInt - 7}, {product(1, 1311753, 1888255, 465465, 9), math.MaxInt},
		{product(1, slices.Repeat([]int{2}, 16)...), 1 << 16}, {product(64, slices.Repeat([]int{2}, 16)...), 1 << 22}, {greatest(), math.MaxInt},
	} {
		if got := Count(x.n); got != x.want {
			t.Error(x.n.Vars, got, x.want)
		}
	}
}

// TestP13_4Order: unlike states have unlike bytes, which have the order of Compare.
func TestP13_4Order(t *testing.T) {
	r := source(9)
	for range 60 {
		n := someNet(r)
		all := states(n)
		var keys [][]byte
		for _, s := range all {
			b, _ := Key(n, s)
			keys = append(keys, b)
		}
		for range 1000 {
			i, j := r.IntN(len(all)), r.IntN(len(all))
			if c := Compare(all[i], all[j]); c != bytes.Compare(keys[i], keys[j]) || (c == 0) != (i == j) {
				t.Fatal(n, all[i], all[j], keys[i], keys[j], c)
			}
		}
	}
	n := greatest()
	last := api.State{}
	var ahead []byte
	for k := -api.MaxValue; k <= api.MaxValue; k += 8191 {
		s := api.State{Locs: slices.Repeat([]int{63}, api.MaxParts), Vars: slices.Repeat([]int{k}, api.MaxVars)}
		b, err := Key(n, s)
		if err != api.OK || string(b) != wantKey(n, s) || ahead != nil && (bytes.Compare(ahead, b) != -1 || Compare(last, s) != -1) {
			t.Fatal(k, err)
		}
		last, ahead = s, b
	}
}

// TestP13_5Greatest: there and back, of a network with as much as may be.
func TestP13_5Greatest(t *testing.T) {
	n := greatest()
	r := source(10)
	for k := range 40 {
		s := api.State{}
		for range n.Autos {
			s.Locs = append(s.Locs, []int{0, 63, r.IntN(64)}[min(k, 2)])
		}
		for range n.Vars {
			s.Vars = append(s.Vars, []int{-api.MaxValue, api.MaxValue, r.IntN(2*api.MaxValue+1) - api.MaxValue}[min(k, 2)])
		}
		b, err := Key(n, s)
		if string(b) != wantKey(n, s) || len(b) != 72 || err != api.OK {
			t.Fatal(s, b, err)
		}
		text, err := Print(n, s)
		if text != wantText(n, s) || err != api.OK {
			t.Fatal(s, text, err)
		}
		back, err := Of(n, b)
		again, err2 := Parse(n, text)
		if !alike(back, s) || !alike(again, s) || err != api.OK || err2 != api.OK {
			t.Fatal(s, back, again, err, err2)
		}
		s.Locs[k%8] += 64
		refuses(t, n, s, api.ErrState)
	}
	s, _ := First(n)
	b, _ := Key(n, s)
	for i := range b {
		for _, c := range []byte{64, 255} {
			o := slices.Clone(b)
			o[i] = c
			if i < 8 || (i-8)%4 < 2 && (c == 255 || (i-8)%4 == 0) || (i-8)%4 == 1 {
				refusesBytes(t, n, o, api.ErrState)
			} else if back, err := Of(n, o); err != api.OK || wantKey(n, back) != string(o) {
				t.Error(i, c, back, err)
			}
		}
	}
	refusesBytes(t, n, b[:71], api.ErrState)
	refusesBytes(t, n, append(b, 0), api.ErrState)
}

// TestP13Form: networks that are not right have ErrForm, ahead of ErrState.
func TestP13Form(t *testing.T) {
	for _, n := range wrongNets(t) {
		for _, s := range []api.State{{}, {Locs: []int{0, 0}, Vars: []int{0, 257, -3}}, {Locs: []int{9}, Vars: []int{-9}}, at(0)} {
			refuses(t, n, s, api.ErrForm)
		}
		for _, text := range []string{"", ";", "A.a,AA.a;n=0,nn=257,m=-3", "A"} {
			refusesText(t, n, text, api.ErrForm)
		}
		for _, b := range [][]byte{nil, {0}, []byte("\x00\x00\x00\x00\x00\x01\x00\x00\x00\x07\x00\x00\x00\x00")} {
			refusesBytes(t, n, b, api.ErrForm)
		}
		if s, err := First(n); s.Locs != nil || s.Vars != nil || err != api.ErrForm {
			t.Error(s, err)
		}
		if k := Count(n); k != 0 {
			t.Error(k)
		}
	}
	// Such as check alone refuses are right here.
	n := said(t, rich)
	n.Autos[0].Locs[0].Inv[0] = api.Guard{Clock: 1, Other: 2, Cmp: api.Lt, N: -9}
	if s, err := First(n); err != api.OK || !Right(n, s) || Count(n) != 330 {
		t.Error(s, err)
	}
}

// TestP3StaysAsItIs: what is handed in stays as it is, spare room too; what is answered is the caller's.
func TestP3StaysAsItIs(t *testing.T) {
	room := func() (api.Net, api.State, []byte) {
		n := said(t, rich)
		n.Vars = append(n.Vars, api.Variable{Name: "s1"})[:3]
		n.Autos = append(n.Autos, api.Auto{Name: "s2"})[:2]
		for i := range n.Autos {
			for j := range n.Autos[i].Locs {
				l := &n.Autos[i].Locs[j]
				l.Inv = append(l.Inv, api.Guard{N: -1}, api.Guard{N: -2})[:len(l.Inv)]
			}
		}
		s := api.State{Locs: append([]int{0, 0}, 8, 8)[:2], Vars: append([]int{0, 257, -3}, 9, 9)[:3]}
		return n, s, []byte("\x00\x00\x00\x00\x00\x01\x00\x00\x00\x07\x00\x00\x00\x00\x05\x05")[:14]
	}
	wide := func(n api.Net, s api.State, b []byte) string {
		inv := n.Autos[0].Locs[0].Inv
		return fmt.Sprint(n, n.Vars[:4], n.Autos[:3], inv[:len(inv)+2], s, s.Locs[:4], s.Vars[:5], b[:16])
	}
	n, s, b := room()
	Right(n, s)
	Stays(n, s)
	Count(n)
	Print(n, s)
	first, _ := First(n)
	of, _ := Of(n, b)
	read, _ := Parse(n, "A.a,AA.a;n=0,nn=257,m=-3")
	key, _ := Key(n, s)
	guards, _ := Invariants(n, s)
	lists := [][]int{first.Locs, first.Vars, of.Locs, of.Vars, read.Locs, read.Vars, s.Locs, s.Vars}
	for i, a := range lists {
		for _, o := range lists[:i] {
			if lies(a, o) {
				t.Error("shared", i)
			}
		}
	}
	again, _ := Key(n, s)
	twice, _ := Invariants(n, s)
	if lies(key, again) || lies(key, b) || lies(guards, twice) {
		t.Error("shared")
	}
	for i := range n.Autos {
		for _, l := range n.Autos[i].Locs {
			if lies(guards, l.Inv) {
				t.Error("shared with the network")
			}
		}
	}
	for _, l := range lists[:6] {
		for i := range l[:cap(l)] {
			l[:cap(l)][i] = -77
		}
	}
	clear(guards[:cap(guards)])
	clear(key[:cap(key)])
	m, o, c := room()
	if wide(n, s, b) != wide(m, o, c) {
		t.Error(wide(n, s, b))
	}
	// Only one of two automata has an invariant: its list may not be handed out as it is.
	one := said(t, "clock x; auto A { loc a inv x <= 5; }")
	if l, _ := Invariants(one, at(0)); len(l) != 1 || lies(l, one.Autos[0].Locs[0].Inv) {
		t.Error(l)
	}
}

// TestP1Any: nothing panics, whatever it is given; and none of it is taken that is none.
func TestP1Any(t *testing.T) {
	r := source(11)
	any := func() int { return wild[r.IntN(len(wild))] }
	row := func() []int {
		var l []int
		for range r.IntN(5) {
			l = append(l, any())
		}
		return l
	}
	nets := append(wrongNets(t), said(t, rich), said(t, small), api.Net{})
	for range 5000 {
		n := nets[r.IntN(len(nets))]
		s := api.State{Locs: row(), Vars: row()}
		Same(s, api.State{Locs: row(), Vars: row()})
		Compare(s, api.State{Locs: row(), Vars: row()})
		right := Right(n, s)
		_, err := Key(n, s)
		text, err2 := Print(n, s)
		_, err3 := Invariants(n, s)
		if right != (err == api.OK) || err != err2 || err != err3 || !right && Stays(n, s) {
			t.Fatal(n, s, right, err, err2, err3)
		}
		Parse(n, text+";")
		Of(n, []byte(text))
		First(n)
		Count(n)
	}
}
