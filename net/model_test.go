package net

import (
	"fmt"
	"math"
	"math/rand/v2"
	"reflect"
	"regexp"
	"slices"
	"strings"

	"gnomon/api"
	"gnomon/expr"
)

// order is the errors of a network, as they are named.
var order = []api.Errno{api.ErrRange, api.ErrLong, api.ErrName, api.ErrVar, api.ErrLoc, api.ErrEdge, api.ErrClock, api.ErrForm, api.ErrTest}

// goalOrder is those of a goal.
var goalOrder = []api.Errno{api.ErrLong, api.ErrLoc, api.ErrClock, api.ErrForm, api.ErrTest}

// faults gathers which errors there are.
type faults map[api.Errno]int

func (f faults) note(err api.Errno, wrong ...bool) {
	if slices.Contains(wrong, true) {
		f[err]++
	}
}

func (f faults) first(order []api.Errno) api.Errno {
	for _, err := range order {
		if f[err] > 0 {
			return err
		}
	}
	return api.OK
}

var (
	namePattern = regexp.MustCompile(`^[a-zA-Z][a-zA-Z0-9_]{0,15}$`)
	keptPattern = regexp.MustCompile(`^(clock|int|chan|auto|loc|edge|in|inv|when|sync|do|urgent|committed|true|reach|never)$`)
)

func (f faults) names(l []string) {
	seen := map[string]int{}
	for _, s := range l {
		seen[s]++
		f.note(api.ErrName, !namePattern.MatchString(s), keptPattern.MatchString(s), strings.Contains(s, "\n"), seen[s] > 1)
	}
}

func (f faults) guard(n api.Net, g api.Guard) {
	k := len(n.Clocks)
	f.note(api.ErrClock, g.Clock < 1, g.Clock > k, g.Other < 0, g.Other > k)
	f.note(api.ErrForm, !slices.Contains([]api.Cmp{api.Lt, api.Le, api.Eq, api.Ge, api.Gt}, g.Cmp))
}

func (f faults) test(n api.Net, l []api.Node) {
	if len(l) > 0 {
		f.note(api.ErrTest, expr.Right(l, len(n.Vars)) != api.OK, !expr.IsTruth(l))
	}
}

func (f faults) set(n api.Net, s api.Set) {
	f.note(api.ErrLong, len(s.Expr) > api.MaxNodes)
	f.note(api.ErrClock, s.Clock < 0, s.Clock > len(n.Clocks))
	if s.Clock != 0 {
		f.note(api.ErrForm, s.Var != 0, len(s.Expr) != 0)
		return
	}
	f.note(api.ErrForm, s.N != 0)
	f.note(api.ErrTest, s.Var < 0, s.Var >= len(n.Vars), expr.Right(s.Expr, len(n.Vars)) != api.OK, expr.IsTruth(s.Expr))
}

func (f faults) edge(n api.Net, a api.Auto, e api.Edge) {
	f.note(api.ErrLong, len(e.Guards) > api.MaxGuards, len(e.Sets) > api.MaxSets, len(e.Test) > api.MaxNodes)
	f.note(api.ErrEdge, e.From < 0, e.From >= len(a.Locs), e.To < 0, e.To >= len(a.Locs), e.Chan < 0, e.Chan > len(n.Chans), e.Send && e.Chan == 0)
	for _, g := range e.Guards {
		f.guard(n, g)
	}
	for _, s := range e.Sets {
		f.set(n, s)
	}
	f.test(n, e.Test)
}

// netFaults looks for everything at once.
func netFaults(n api.Net) faults {
	f := faults{}
	f.note(api.ErrRange, len(n.Autos) == 0)
	f.note(api.ErrLong, len(n.Clocks) > api.MaxClocks, len(n.Vars) > api.MaxVars, len(n.Chans) > api.MaxChans, len(n.Autos) > api.MaxParts)
	names := append(append([]string{}, n.Clocks...), n.Chans...)
	for _, v := range n.Vars {
		names = append(names, v.Name)
		f.note(api.ErrVar, v.Lo > v.Init, v.Init > v.Hi)
		for _, x := range []int{v.Lo, v.Init, v.Hi} {
			f.note(api.ErrVar, x < -api.MaxValue, x > api.MaxValue)
		}
	}
	for _, a := range n.Autos {
		names = append(names, a.Name)
		f.note(api.ErrRange, len(a.Locs) == 0)
		f.note(api.ErrLong, len(a.Locs) > api.MaxLocs, len(a.Edges) > api.MaxEdges)
		var locs []string
		for _, l := range a.Locs {
			locs = append(locs, l.Name)
			f.note(api.ErrLong, len(l.Inv) > api.MaxGuards)
			f.note(api.ErrLoc, l.Kind != api.Plain && l.Kind != api.Urgent && l.Kind != api.Committed)
			for _, g := range l.Inv {
				f.guard(n, g)
			}
		}
		f.names(locs)
		for _, e := range a.Edges {
			f.edge(n, a, e)
		}
	}
	f.names(names)
	return f
}

func wantWhole(n api.Net) api.Errno { return netFaults(n).first(order) }

func wantWholeGoal(n api.Net, g api.Goal) api.Errno {
	if err := wantWhole(n); err != api.OK {
		return err
	}
	f := faults{}
	f.note(api.ErrLong, len(g) > api.MaxGoal)
	for _, p := range g {
		f.note(api.ErrLong, len(p.Locs) > api.MaxGoal, len(p.Guards) > api.MaxGuards, len(p.Test) > api.MaxNodes)
		for _, at := range p.Locs {
			outside := at.Auto < 0 || at.Auto >= len(n.Autos)
			f.note(api.ErrLoc, outside || at.Loc < 0 || at.Loc >= len(n.Autos[at.Auto].Locs))
		}
		for _, x := range p.Guards {
			f.guard(n, x)
		}
		f.test(n, p.Test)
	}
	return f.first(goalOrder)
}

// The texts another way: by forms, and lists that are joined.

func wantGuard(n api.Net, g api.Guard) string {
	sign := strings.Fields("? < <= == >= >")[g.Cmp]
	if g.Other == 0 {
		return fmt.Sprintf("%s %s %d", n.Clocks[g.Clock-1], sign, g.N)
	}
	return fmt.Sprintf("%s - %s %s %d", n.Clocks[g.Clock-1], n.Clocks[g.Other-1], sign, g.N)
}

func wantExpr(n api.Net, l []api.Node) string {
	var names []string
	for _, v := range n.Vars {
		names = append(names, v.Name)
	}
	s, _ := expr.Print(l, names)
	return s
}

func wantConds(n api.Net, l []api.Guard, test []api.Node) []string {
	var out []string
	for _, g := range l {
		out = append(out, wantGuard(n, g))
	}
	if len(test) == 0 {
		return out
	}
	s := wantExpr(n, test)
	if s == "true" || test[0].Op == api.Or {
		s = "(" + s + ")"
	}
	return append(out, s)
}

// clause is a word and what stands behind it; nothing, if that is none.
func clause(word, between string, l []string) string {
	if len(l) == 0 {
		return ""
	}
	return " " + word + " " + strings.Join(l, between)
}

func wantEdge(n api.Net, a api.Auto, e api.Edge) string {
	var channel, sets []string
	if e.Chan > 0 {
		channel = []string{n.Chans[e.Chan-1] + map[bool]string{true: "!", false: "?"}[e.Send]}
	}
	for _, s := range e.Sets {
		if s.Clock > 0 {
			sets = append(sets, fmt.Sprintf("%s := %d", n.Clocks[s.Clock-1], s.N))
		} else {
			sets = append(sets, fmt.Sprintf("%s := %s", n.Vars[s.Var].Name, wantExpr(n, s.Expr)))
		}
	}
	when := clause("when", " && ", wantConds(n, e.Guards, e.Test))
	return fmt.Sprintf("  edge %s -> %s%s%s%s;", a.Locs[e.From].Name, a.Locs[e.To].Name, when, clause("sync", "", channel), clause("do", ", ", sets))
}

func wantText(n api.Net) string {
	var lines []string
	if s := clause("clock", ", ", n.Clocks); s != "" {
		lines = append(lines, s[1:]+";")
	}
	for _, v := range n.Vars {
		lines = append(lines, fmt.Sprintf("int %s in %d .. %d := %d;", v.Name, v.Lo, v.Hi, v.Init))
	}
	if s := clause("chan", ", ", n.Chans); s != "" {
		lines = append(lines, s[1:]+";")
	}
	for _, a := range n.Autos {
		lines = append(lines, "auto "+a.Name+" {")
		for _, l := range a.Locs {
			kind := []string{"", " urgent", " committed"}[l.Kind]
			lines = append(lines, "  loc "+l.Name+kind+clause("inv", " && ", wantConds(n, l.Inv, nil))+";")
		}
		for _, e := range a.Edges {
			lines = append(lines, wantEdge(n, a, e))
		}
		lines = append(lines, "}")
	}
	return strings.Join(lines, "\n") + "\n"
}

func wantGoalText(n api.Net, g api.Goal) string {
	var parts []string
	for _, p := range g {
		var l []string
		for _, at := range p.Locs {
			l = append(l, n.Autos[at.Auto].Name+"."+n.Autos[at.Auto].Locs[at.Loc].Name)
		}
		l = append(l, wantConds(n, p.Guards, p.Test)...)
		if len(l) == 0 {
			l = []string{"true"}
		}
		parts = append(parts, strings.Join(l, " && "))
	}
	return strings.Join(parts, " || ")
}

// alike tells whether two values are the same all through; an empty list is as nil.
func alike(a, b any) bool { return alikeValues(reflect.ValueOf(a), reflect.ValueOf(b)) }

func alikeValues(a, b reflect.Value) bool {
	switch a.Kind() {
	case reflect.Slice:
		if a.Len() != b.Len() {
			return false
		}
		for i := range a.Len() {
			if !alikeValues(a.Index(i), b.Index(i)) {
				return false
			}
		}
		return true
	case reflect.Struct:
		for i := range a.NumField() {
			if !alikeValues(a.Field(i), b.Field(i)) {
				return false
			}
		}
		return true
	}
	return a.Interface() == b.Interface()
}

// memory is a piece of memory that a list has, its spare room included.
type memory struct{ from, to uintptr }

// memories are those of all lists of a value.
func memories(v reflect.Value) []memory {
	var l []memory
	switch v.Kind() {
	case reflect.Slice:
		if v.Cap() > 0 {
			from := v.Pointer()
			l = append(l, memory{from, from + uintptr(v.Cap())*v.Type().Elem().Size()})
		}
		for i := range v.Len() {
			l = append(l, memories(v.Index(i))...)
		}
	case reflect.Struct:
		for i := range v.NumField() {
			l = append(l, memories(v.Field(i))...)
		}
	}
	return l
}

// shared tells whether two of the lists of some values lie in one another.
func shared(values ...any) bool {
	var l []memory
	for _, v := range values {
		l = append(l, memories(reflect.ValueOf(v))...)
	}
	slices.SortFunc(l, func(a, b memory) int { return int(a.from) - int(b.from) })
	for i := 1; i < len(l); i++ {
		if l[i].from < l[i-1].to {
			return true
		}
	}
	return false
}

// leaves are all that can be changed in a value: fields, elements, lists.
func leaves(v reflect.Value) []reflect.Value {
	switch v.Kind() {
	case reflect.Struct:
		var l []reflect.Value
		for i := range v.NumField() {
			l = append(l, leaves(v.Field(i))...)
		}
		return l
	case reflect.Slice:
		l := []reflect.Value{v}
		for i := range v.Len() {
			l = append(l, leaves(v.Index(i))...)
		}
		return l
	}
	return []reflect.Value{v}
}

// change changes one thing of a network or a goal, to what may be or to what may not.
func change(r *rand.Rand, what any) {
	l := leaves(reflect.ValueOf(what).Elem())
	v := l[r.IntN(len(l))]
	switch v.Kind() {
	case reflect.Int:
		edges := []int{-1, 0, 1, 2, 3, 4, 5, api.MaxValue, api.MaxValue + 1, -api.MaxValue, -api.MaxValue - 1, math.MinInt, math.MaxInt, 1 << 32, int(v.Int()) + 1, int(v.Int()) - 1}
		v.SetInt(int64(edges[r.IntN(len(edges))]))
	case reflect.Uint8:
		v.SetUint(uint64([]int{0, 1, 2, 3, 4, 5, 6, 7, 14, 15, 255}[r.IntN(11)]))
	case reflect.Bool:
		v.SetBool(!v.Bool())
	case reflect.String:
		v.SetString([]string{"", "x", "y", "n", "c", "A", "l0", "clock", "_", "x y", "abcdefghijklmnop", "abcdefghijklmnopq", "q"}[r.IntN(13)])
	case reflect.Slice:
		changeList(r, v)
	}
}

// changeList leaves out the last element, or puts one behind it: nothing, the first one again, or so many that it may be too long.
func changeList(r *rand.Rand, v reflect.Value) {
	more := reflect.Zero(v.Type().Elem())
	if v.Len() > 0 && r.IntN(3) > 0 {
		more = v.Index(r.IntN(v.Len()))
	}
	switch r.IntN(5) {
	case 0:
		v.Set(v.Slice(0, max(v.Len()-1, 0)))
	case 1:
		most := []int{api.MaxClocks, api.MaxGuards, api.MaxNodes, api.MaxEdges}[r.IntN(4)] + r.IntN(2)
		for v.Len() < most {
			v.Set(reflect.Append(v, more))
		}
	default:
		v.Set(reflect.Append(v, more))
	}
}

// Random whole networks.

func someGuards(r *rand.Rand, clocks int) []api.Guard {
	var l []api.Guard
	if clocks == 0 {
		return nil
	}
	for range r.IntN(3) {
		g := api.Guard{Clock: 1 + r.IntN(clocks), Cmp: api.Cmp(1 + r.IntN(5)), N: r.IntN(12) - 3}
		if r.IntN(3) == 0 {
			g.Other = 1 + r.IntN(clocks)
		}
		l = append(l, g)
	}
	return l
}

func someNumber(r *rand.Rand, vars, depth int) []api.Node {
	if depth == 0 || r.IntN(3) == 0 {
		if vars > 0 && r.IntN(2) == 0 {
			return []api.Node{{Op: api.Var, N: r.IntN(vars)}}
		}
		return []api.Node{{Op: api.Num, N: r.IntN(4)}}
	}
	if r.IntN(4) == 0 {
		return append([]api.Node{{Op: api.Neg}}, someNumber(r, vars, depth-1)...)
	}
	op := api.Node{Op: api.Add + api.Op(r.IntN(3))}
	return append(append([]api.Node{op}, someNumber(r, vars, depth-1)...), someNumber(r, vars, depth-1)...)
}

func someTruth(r *rand.Rand, vars, depth int) []api.Node {
	if depth == 0 || r.IntN(4) == 0 {
		return []api.Node{{Op: api.True}}
	}
	op, part := api.Less+api.Op(r.IntN(7)), someNumber
	if op >= api.Not {
		part = someTruth
	}
	l := append([]api.Node{{Op: op}}, part(r, vars, depth-1)...)
	if op != api.Not {
		l = append(l, part(r, vars, depth-1)...)
	}
	return l
}

func someTest(r *rand.Rand, vars int) []api.Node {
	if r.IntN(2) == 0 {
		return nil
	}
	return someTruth(r, vars, 3)
}

func someSets(r *rand.Rand, clocks, vars int) []api.Set {
	var l []api.Set
	for range r.IntN(3) {
		switch {
		case clocks > 0 && (vars == 0 || r.IntN(2) == 0):
			l = append(l, api.Set{Clock: 1 + r.IntN(clocks), N: r.IntN(9) - 2})
		case vars > 0:
			l = append(l, api.Set{Var: r.IntN(vars), Expr: someNumber(r, vars, 3)})
		}
	}
	return l
}

func someAuto(r *rand.Rand, name string, n api.Net) api.Auto {
	a := api.Auto{Name: name}
	for i := range 1 + r.IntN(3) {
		a.Locs = append(a.Locs, api.Loc{Name: fmt.Sprint("l", i), Kind: api.LocKind(r.IntN(3)), Inv: someGuards(r, len(n.Clocks))})
	}
	for range r.IntN(4) {
		e := api.Edge{From: r.IntN(len(a.Locs)), To: r.IntN(len(a.Locs)), Guards: someGuards(r, len(n.Clocks)), Test: someTest(r, len(n.Vars)), Sets: someSets(r, len(n.Clocks), len(n.Vars))}
		e.Chan = r.IntN(len(n.Chans) + 1)
		e.Send = e.Chan > 0 && r.IntN(2) == 0
		a.Edges = append(a.Edges, e)
	}
	return a
}

func someNet(r *rand.Rand) api.Net {
	n := api.Net{Clocks: []string{"x", "y", "z"}[:r.IntN(4)], Chans: []string{"c", "d"}[:r.IntN(3)]}
	for _, name := range []string{"n", "m"}[:r.IntN(3)] {
		lo := r.IntN(7) - 4
		init := lo + r.IntN(3)
		n.Vars = append(n.Vars, api.Variable{Name: name, Lo: lo, Init: init, Hi: init + r.IntN(3)})
	}
	for _, name := range []string{"A", "B", "C"}[:1+r.IntN(3)] {
		n.Autos = append(n.Autos, someAuto(r, name, n))
	}
	return n
}

func someGoal(r *rand.Rand, n api.Net) api.Goal {
	var g api.Goal
	for range r.IntN(4) {
		p := api.Part{Guards: someGuards(r, len(n.Clocks)), Test: someTest(r, len(n.Vars))}
		for range r.IntN(3) {
			a := r.IntN(len(n.Autos))
			p.Locs = append(p.Locs, api.At{Auto: a, Loc: r.IntN(len(n.Autos[a].Locs))})
		}
		g = append(g, p)
	}
	return g
}
