package run

import (
	"cmp"
	"fmt"
	"math/big"
	"math/rand/v2"
	"reflect"
	"regexp"
	"slices"
	"strings"
	"testing"

	"gnomon/api"
	"gnomon/moves"
	"gnomon/net"
	"gnomon/parse"
)

func source(seed uint64) *rand.Rand { return rand.New(rand.NewPCG(20, seed)) }

// said is the network that a text says.
func said(t testing.TB, s string) api.Net {
	t.Helper()
	n, err, at := parse.Net(s)
	if err != api.OK {
		t.Fatal(s, err, at)
	}
	return n
}

const small = "clock x; auto A { loc a inv x <= 5; loc b; edge a -> b when x >= 3 do x := 0; }"

// rich has moves of one automaton, and handshakes.
const rich = `clock x, y; int n in 0 .. 3 := 0; chan c, d;
	auto A {
		loc a; loc b;
		edge a -> b when x >= 3 && n < 3 sync c! do x := 1;
		edge a -> b do y := 0;
		edge b -> a sync d!;
	}
	auto end {
		loc a; loc b;
		edge a -> b when n == 0 sync c?;
		edge b -> a;
		edge b -> a sync d?;
	}`

// richMoves are all moves of the rich network, by hand, and their texts.
var richMoves = []struct {
	move api.Move
	text string
}{
	{api.Move{With: 2}, "A.0 end.0"},
	{api.Move{Edge: 1}, "A.1"},
	{api.Move{Edge: 2, With: 2, Take: 2}, "A.2 end.2"},
	{api.Move{Auto: 1, Edge: 1}, "end.1"},
}

// noMoves are none of the rich network.
var noMoves = []api.Move{{}, {Auto: -1}, {Auto: 2}, {Edge: -1}, {Edge: 3}, {Edge: 2}, {Auto: 1}, {Edge: 1, Take: 1}, {Edge: 1, With: 2}, {With: 1}, {With: 3}, {With: -1}, {With: 2, Take: 2}, {With: 2, Take: 3}, {Auto: 1, With: 1}, {Auto: 1, Edge: 1, With: 1, Take: 1}}

// frac is the fraction that a text says, right or not.
func frac(t testing.TB, s string) api.Rat {
	t.Helper()
	r := api.Rat{Den: 1}
	if !strings.Contains(s, "/") {
		s += "/1"
	}
	if _, err := fmt.Sscanf(s, "%d/%d", &r.Num, &r.Den); err != nil {
		t.Fatal(s, err)
	}
	return r
}

// fracs are fractions by their texts, with blanks between.
func fracs(t testing.TB, s string) []api.Rat {
	t.Helper()
	var l []api.Rat
	for _, word := range strings.Fields(s) {
		l = append(l, frac(t, word))
	}
	return l
}

// way is so many moves, each another one of the rich network's, from a first one on.
func way(from, many int) []api.Move {
	var l []api.Move
	for i := range many {
		l = append(l, richMoves[(from+i)%len(richMoves)].move)
	}
	return l
}

// timed is the run with such delays, the last one Last, and with moves from a first one on.
func timed(t testing.TB, from int, delays string) api.Run {
	t.Helper()
	l := fracs(t, delays)
	r := api.Run{Last: l[len(l)-1]}
	for i, m := range way(from, len(l)-1) {
		r.Steps = append(r.Steps, api.Step{Delay: l[i], Move: m})
	}
	return r
}

// long is a run of so many steps of the small network's move.
func long(many int) api.Run {
	return api.Run{Steps: slices.Repeat([]api.Step{{Delay: api.Rat{Num: 1, Den: 1}}}, many), Last: api.Rat{Den: 1}}
}

// wrongNets are networks that net.Right does not take.
func wrongNets(t testing.TB) []api.Net {
	l := []api.Net{{}, {Clocks: []string{"x"}}}
	for _, change := range []func(n *api.Net){
		func(n *api.Net) { n.Autos[1].Locs = nil },
		func(n *api.Net) { n.Clocks = slices.Repeat(n.Clocks, 5) },
		func(n *api.Net) { n.Autos[0].Name = "n" },
		func(n *api.Net) { n.Vars[0].Init = 4 },
		func(n *api.Net) { n.Autos[0].Locs[1].Kind = 3 },
		func(n *api.Net) { n.Autos[0].Edges[0].To = 3 },
		func(n *api.Net) { n.Autos[0].Edges[0].Guards[0].Clock = 3 },
		func(n *api.Net) { n.Autos[0].Edges[0].Guards[0].Cmp = 0 },
		func(n *api.Net) { n.Autos[0].Edges[0].Test = n.Autos[0].Edges[0].Test[1:] },
	} {
		n := said(t, rich)
		change(&n)
		l = append(l, n)
	}
	for _, n := range l {
		if net.Right(n) {
			t.Fatal(n)
		}
	}
	return l
}

// diagonal is a network that net.Right takes, though check does not.
func diagonal(t testing.TB) api.Net {
	n := said(t, small)
	n.Autos[0].Edges[0].Guards[0].N = -1
	n.Autos[0].Locs[0].Inv[0].N = api.MaxConst + 1
	if !net.Right(n) {
		t.Fatal(n)
	}
	return n
}

// held is the fraction of a number; false: int64 cannot hold its terms.
func held(x *big.Rat) (api.Rat, bool) {
	return api.Rat{Num: x.Num().Int64(), Den: x.Denom().Int64()}, x.Num().IsInt64() && x.Denom().IsInt64()
}

func bigOf(r api.Rat) *big.Rat { return big.NewRat(r.Num, r.Den) }

// isRight tells by the words whether a fraction is right.
func isRight(r api.Rat) bool {
	if r.Den < 1 {
		return false
	}
	x, _ := held(bigOf(r))
	return x == r
}

// wantTimes are the times of a run by exact numbers.
func wantTimes(r api.Run) ([]api.Rat, api.Errno) {
	var l []api.Rat
	for _, s := range r.Steps {
		l = append(l, s.Delay)
	}
	l = append(l, r.Last)
	for _, d := range l {
		if !isRight(d) || d.Num < 0 {
			return nil, api.ErrDelay
		}
	}
	sum := new(big.Rat)
	for i, d := range l {
		t, ok := held(sum.Add(sum, bigOf(d)))
		if !ok {
			return nil, api.ErrOver
		}
		l[i] = t
	}
	return l, api.OK
}

// wantOfTimes is the run of times by exact numbers.
func wantOfTimes(way []api.Move, times []api.Rat) (api.Run, api.Errno) {
	if len(way)+1 != len(times) {
		return api.Run{}, api.ErrLong
	}
	last := new(big.Rat)
	for _, x := range times {
		if !isRight(x) || bigOf(x).Cmp(last) < 0 {
			return api.Run{}, api.ErrDelay
		}
		last = bigOf(x)
	}
	var r api.Run
	last = new(big.Rat)
	for i, x := range times {
		d, ok := held(new(big.Rat).Sub(bigOf(x), last))
		if !ok {
			return api.Run{}, api.ErrOver
		}
		last = bigOf(x)
		if i < len(way) {
			r.Steps = append(r.Steps, api.Step{Delay: d, Move: way[i]})
		} else {
			r.Last = d
		}
	}
	return r, api.OK
}

// wantJoin is runs one behind the other, by exact numbers: a row of delays in which each run's Last, but the last one's, and what follows it become one.
func wantJoin(l []api.Run) (api.Run, api.Errno) {
	whole := api.Run{Last: l[0].Last}
	whole.Steps = append(whole.Steps, l[0].Steps...)
	err := api.OK
	for i, next := range l[1:] {
		first := &next.Last
		steps := slices.Clone(next.Steps)
		if len(steps) > 0 {
			first = &steps[0].Delay
		}
		if !isRight(l[i].Last) || !isRight(*first) {
			return api.Run{}, api.ErrDelay
		}
		if err == api.OK {
			sum, ok := held(new(big.Rat).Add(bigOf(whole.Last), bigOf(*first)))
			if !ok {
				err = api.ErrOver
			}
			*first = sum
		}
		whole.Steps = append(whole.Steps, steps...)
		whole.Last = next.Last
	}
	if err != api.OK {
		return api.Run{}, err
	}
	return whole, api.OK
}

// wantText is a run's text by hand.
func wantText(n api.Net, r api.Run) string {
	number := func(x api.Rat) string {
		if x.Den == 1 {
			return fmt.Sprint(x.Num)
		}
		return fmt.Sprintf("%d/%d", x.Num, x.Den)
	}
	var text string
	for _, s := range r.Steps {
		text += fmt.Sprintf("%s %s.%d", number(s.Delay), n.Autos[s.Move.Auto].Name, s.Move.Edge)
		if s.Move.With > 0 {
			text += fmt.Sprintf(" %s.%d", n.Autos[s.Move.With-1].Name, s.Move.Take)
		}
		text += "\n"
	}
	return text + number(r.Last) + " end\n"
}

// reader reads runs' texts another way: by a pattern of lines.
type reader struct {
	step, last *regexp.Regexp
}

func readerOf(n api.Net) reader {
	var l []string
	for _, m := range moves.All(n) {
		text, _ := moves.Print(n, m)
		l = append(l, regexp.QuoteMeta(text))
	}
	const number = `(0|[1-9][0-9]*|[1-9][0-9]*/([2-9]|[1-9][0-9]+))`
	return reader{regexp.MustCompile(`\A` + number + ` (` + strings.Join(l, "|") + `)\n\z`), regexp.MustCompile(`\A` + number + ` end\n\z`)}
}

// fault is the error and the line of a text; of one whose fractions are right.
func (p reader) fault(s string) (api.Errno, int) {
	l := strings.SplitAfter(s, "\n")
	if l[len(l)-1] == "" {
		l = l[:len(l)-1]
	}
	for i, line := range l {
		number, _, _ := strings.Cut(line, " ")
		x, ok := new(big.Rat).SetString(number)
		if !ok || x.RatString() != number {
			return api.ErrSyntax, i + 1
		}
		if _, ok := held(x); !ok {
			return api.ErrSyntax, i + 1
		}
		if p.last.MatchString(line) {
			if i+1 < len(l) {
				return api.ErrSyntax, i + 2
			}
			if i > api.MaxZones {
				return api.ErrLong, 0
			}
			return api.OK, 0
		}
		if !p.step.MatchString(line) {
			return api.ErrSyntax, i + 1
		}
	}
	return api.ErrSyntax, len(l) + 1
}

// someRat is a fraction at random, mostly right: small, or as great as may be.
func someRat(r *rand.Rand, great bool) api.Rat {
	num, den := int64(r.IntN(12)), int64(1+r.IntN(5))
	if great {
		num, den = r.Int64()>>r.IntN(63), 1+r.Int64()>>r.IntN(63)
	}
	x, _ := held(big.NewRat(num, den))
	return x
}

// someRun is a run of the rich network at random; broken: some of its fractions may not be right, or are below 0.
func someRun(r *rand.Rand, most int, great, broken bool) api.Run {
	number := func() api.Rat {
		x := someRat(r, great)
		if broken {
			switch r.IntN(24) {
			case 0:
				x.Num = -x.Num
			case 1:
				x.Den = -x.Den
			case 2:
				return api.Rat{}
			case 3:
				return api.Rat{Num: 2, Den: 4}
			}
		}
		return x
	}
	l := api.Run{Last: number()}
	for range r.IntN(most + 1) {
		l.Steps = append(l.Steps, api.Step{Delay: number(), Move: richMoves[r.IntN(len(richMoves))].move})
	}
	return l
}

// memory is a piece of memory that a list has, its spare room included.
type memory struct{ from, to uintptr }

// memories are those of all lists of a value.
func memories(v reflect.Value) []memory {
	var l []memory
	switch v.Kind() {
	case reflect.Slice:
		if v.Cap() > 0 {
			l = append(l, memory{v.Pointer(), v.Pointer() + uintptr(v.Cap())*v.Type().Elem().Size()})
		}
		for i := range v.Len() {
			l = append(l, memories(v.Index(i))...)
		}
	case reflect.Struct:
		for i := range v.NumField() {
			l = append(l, memories(v.Field(i))...)
		}
	}
	return l
}

// shared tells whether two of the lists of some values lie in one another.
func shared(values ...any) bool {
	var l []memory
	for _, v := range values {
		l = append(l, memories(reflect.ValueOf(v))...)
	}
	slices.SortFunc(l, func(a, b memory) int { return cmp.Compare(a.from, b.from) })
	for i := 1; i < len(l); i++ {
		if l[i].from < l[i-1].to {
			return true
		}
	}
	return false
}
