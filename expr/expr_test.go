package expr

import (
	"math"
	"slices"
	"strings"
	"testing"

	"gnomon/api"
)

// chain is the deepest list of so many nodes: a sum, or a truth, that grows to the left.
func chain(op, leaf api.Op, nodes int) []api.Node {
	pairs := (nodes - 1) / 2
	return append(slices.Repeat(of(op), pairs), slices.Repeat(of(leaf), nodes-pairs)...)
}

// TestP8_1End: by Ops alone, held against trees that are grown another way.
func TestP8_1End(t *testing.T) {
	check := func(l []api.Node) {
		for _, at := range []int{math.MinInt, -1 << 32, -2, -1, len(l), len(l) + 1, 1 << 32, math.MaxInt} {
			if k := End(l, at); k != 0 {
				t.Fatal(l, at, k)
			}
		}
		for at := range l {
			want := 0
			if tree, rest := grown(l[at:]); tree != nil {
				want = len(l) - len(rest)
			}
			if k := End(l, at); k != want {
				t.Fatal(l, at, k, want)
			}
		}
	}
	var alphabet []api.Node
	for op := api.Op(0); op <= api.Or+1; op++ {
		alphabet = append(alphabet, api.Node{Op: op, N: -7})
	}
	lists(alphabet, 3, check)
	lists(of(0, api.Neg, api.Add, api.Not, api.Or, api.True, node(200)), 5, check)
	for _, op := range noOps() {
		check(of(api.Add, node(op), node(op), node(op)))
	}
	// No limit stands for how many nodes there are.
	long := slices.Repeat(of(api.Neg), 100000)
	if End(long, 0) != 0 || End(long, 99999) != 0 || End(append(long, num(1)), 0) != 100001 || End(append(long, num(1)), 99998) != 100001 {
		t.Error("long")
	}
	wide := append(slices.Repeat(of(api.And), 50000), slices.Repeat(of(api.True), 50002)...)
	if End(wide, 0) != 100001 || End(wide[:100000], 0) != 0 || End(wide, 1) != 100000 || End(wide, 50000) != 50001 {
		t.Error("wide")
	}
}

// TestP8_1Right: against the words, of all short lists of some nodes.
func TestP8_1Right(t *testing.T) {
	right, wrong := 0, 0
	check := func(l []api.Node) {
		for _, k := range []int{-1, 0, 1, 2} {
			want := api.OK
			if rightTree(l, k) == nil {
				want = api.ErrTest
				wrong++
			} else {
				right++
			}
			if err := Right(l, k); err != want {
				t.Fatal(l, k, err, want)
			}
		}
	}
	var alphabet []api.Node
	for op := api.Op(0); op <= api.Or+1; op++ {
		alphabet = append(alphabet, node(op))
	}
	lists(alphabet, 4, check)
	lists(of(0, variable(1), api.Neg, api.Mul, api.True, api.Unlike, api.Not, api.Or), 6, check)
	if right < 1000 || wrong < 1000 {
		t.Error("few", right, wrong)
	}
}

// TestP8_1RightCases: the numbers of nodes, Ops that are none, and how many nodes may be.
func TestP8_1RightCases(t *testing.T) {
	const most = api.MaxNodes
	for _, x := range []struct {
		l    []api.Node
		k    int
		want api.Errno
	}{
		{nil, 0, api.ErrTest}, {[]api.Node{}, 3, api.ErrTest},
		{of(0), 0, api.OK}, {of(api.MaxValue), 0, api.OK}, {of(api.MaxValue + 1), 0, api.ErrTest}, {of(-1), 0, api.ErrTest}, {of(math.MinInt), 0, api.ErrTest}, {of(math.MaxInt), 0, api.ErrTest}, {of(1 << 32), 0, api.ErrTest},
		{of(variable(0)), 0, api.ErrTest}, {of(variable(0)), 1, api.OK}, {of(variable(1)), 1, api.ErrTest}, {of(variable(-1)), 1, api.ErrTest}, {of(variable(0)), -1, api.ErrTest}, {of(variable(-1)), -1, api.ErrTest}, {of(variable(-2)), -1, api.ErrTest}, {of(variable(math.MinInt)), math.MinInt, api.ErrTest},
		{of(variable(99)), 100, api.OK}, {of(variable(math.MaxInt - 1)), math.MaxInt, api.OK}, {of(variable(math.MaxInt)), math.MaxInt, api.ErrTest}, {of(variable(1 << 32)), 1, api.ErrTest},
		{of(1), math.MinInt, api.OK}, {of(api.True), -5, api.OK},
		{of(1, 2), 0, api.ErrTest}, {of(api.Add, 1, 2, 3), 0, api.ErrTest}, {of(api.Add, 1), 0, api.ErrTest}, {of(api.Add), 0, api.ErrTest}, {of(api.Neg), 0, api.ErrTest}, {of(api.Not), 0, api.ErrTest}, {of(1, api.Neg), 0, api.ErrTest}, {of(api.True, api.True), 0, api.ErrTest},
		{of(api.Less, api.True, 1), 0, api.ErrTest}, {of(api.Less, 1, api.True), 0, api.ErrTest}, {of(api.Not, 1), 0, api.ErrTest}, {of(api.Neg, api.True), 0, api.ErrTest},
		{of(api.Not, api.Not, api.Not, api.True), 0, api.OK}, {of(api.Equal, api.Equal, 1, 2, 3), 0, api.ErrTest},
		{chain(api.Add, api.Num, most-1), 0, api.OK}, {chain(api.Add, api.Num, most), 0, api.ErrTest}, {append(of(api.Neg), chain(api.Add, api.Num, most-1)...), 0, api.OK},
		{chain(api.Add, api.Num, most+1), 0, api.ErrTest}, {chain(api.And, api.True, most+1), 0, api.ErrTest}, {append(of(api.Not), chain(api.And, api.True, most-1)...), 0, api.OK},
		{append(slices.Repeat(of(api.Neg), most-1), num(1)), 0, api.OK}, {append(slices.Repeat(of(api.Neg), most), num(1)), 0, api.ErrTest}, {append(slices.Repeat(of(api.Neg), 1000000), num(1)), 0, api.ErrTest},
	} {
		if err := Right(x.l, x.k); err != x.want {
			t.Error(len(x.l), x.l[:min(len(x.l), 5)], x.k, err, x.want)
		}
	}
	for op := api.Neg; op <= api.Or; op++ {
		part := num(0)
		if op >= api.Not {
			part = node(api.True)
		}
		l := append(of(op), slices.Repeat(of(part), partsOf(op))...)
		if Right(l, 0) != api.OK {
			t.Error(op)
		}
		for _, n := range []int{-1, 1, 5, api.MaxValue, math.MinInt, math.MaxInt} {
			l[0].N = n
			if Right(l, 9) != api.ErrTest {
				t.Error(op, n)
			}
		}
	}
	for _, op := range noOps() {
		for _, l := range [][]api.Node{of(node(op)), of(api.Neg, node(op)), of(api.Add, node(op), 1), of(api.Add, 1, node(op)), of(api.Not, node(op)), of(api.And, api.True, node(op)), of(node(op), 1), of(node(op), 1, 1), of(node(op), api.True, api.True)} {
			if Right(l, 9) != api.ErrTest {
				t.Error(l)
			}
		}
	}
}

func TestP8_1IsTruth(t *testing.T) {
	if IsTruth(nil) || IsTruth([]api.Node{}) {
		t.Error("none")
	}
	for _, more := range [][]api.Node{nil, of(1), of(api.True), of(node(0))} {
		for _, op := range numbers() {
			if IsTruth(of(op, more)) {
				t.Error(op)
			}
		}
		for _, op := range truths() {
			if !IsTruth(of(op, more)) || !IsTruth(of(api.Node{Op: op, N: -3}, more)) {
				t.Error(op)
			}
		}
		for _, op := range noOps() {
			if IsTruth(of(node(op), more)) {
				t.Error(op)
			}
		}
	}
}

// valueAs holds Value and Holds against exact numbers, for a list that may be wrong.
func valueAs(t *testing.T, l []api.Node, vars []int) (err api.Errno) {
	t.Helper()
	var wantN int
	var wantYes bool
	errN, errYes := api.ErrTest, api.ErrTest
	if tree := rightTree(l, len(vars)); tree != nil && tree.isNumber() {
		errN = api.OK
		if v := tree.number(vars); v == nil {
			errN = api.ErrOver
		} else {
			wantN = int(v.Int64())
		}
		err = errN
	} else if tree != nil {
		errYes = api.OK
		yes, over := tree.holds(vars)
		if over {
			errYes = api.ErrOver
		}
		wantYes = yes && !over
		err = errYes
	} else if len(l) == 0 {
		wantYes, errYes = true, api.OK
	}
	if n, err := Value(l, vars); n != wantN || err != errN {
		t.Fatal("Value", l, vars, n, err, wantN, errN)
	}
	if yes, err := Holds(l, vars); yes != wantYes || err != errYes {
		t.Fatal("Holds", l, vars, yes, err, wantYes, errYes)
	}
	return err
}

// ends are numbers at the ends of what int64 can hold, and small ones.
func ends() []int {
	return []int{0, 1, -1, 2, -2, 3, math.MaxInt64, math.MaxInt64 - 1, math.MinInt64, math.MinInt64 + 1, math.MaxInt64 / 2, math.MinInt64 / 2, math.MaxInt64/2 + 1, math.MinInt64/2 - 1, math.MaxInt64 / 3, 1 << 31, 1 << 32, -1 << 32, 3037000499, 3037000500, -3037000499, -3037000500}
}

// TestP8_2Ends: each operator of all pairs of numbers at the ends.
func TestP8_2Ends(t *testing.T) {
	over := 0
	for _, a := range ends() {
		for _, op := range numbers()[3:] {
			for _, b := range ends() {
				if valueAs(t, of(op, variable(0), variable(1)), []int{a, b}) == api.ErrOver {
					over++
				}
			}
		}
		for _, op := range comparisons() {
			for _, b := range ends() {
				valueAs(t, of(op, variable(0), variable(1)), []int{a, b})
				valueAs(t, of(op, api.Neg, variable(0), variable(1)), []int{a, b})
				valueAs(t, of(op, variable(0), api.Add, variable(1), 1), []int{a, b})
			}
		}
		valueAs(t, of(api.Neg, variable(0)), []int{a})
		valueAs(t, of(api.Neg, api.Neg, variable(0)), []int{a})
		valueAs(t, of(variable(1)), []int{5, a})
	}
	if over < 100 {
		t.Error("few", over)
	}
}

// TestP8_2Trees: trees of all sizes, against exact numbers.
func TestP8_2Trees(t *testing.T) {
	s := newSource(1)
	many := map[api.Errno]int{}
	for k := range 20000 {
		vars := make([]int, 1+s.IntN(4))
		top := []int{1, 5, api.MaxValue}[k%3]
		for i := range vars {
			vars[i] = s.IntN(2*top+1) - top
			if k%7 == 0 {
				vars[i] = ends()[s.IntN(len(ends()))]
			}
		}
		l := s.tree(k%2 == 0, 1+s.IntN(api.MaxNodes), len(vars), top).list()
		many[valueAs(t, l, vars)]++
		// A node more or less, or another one, and most are wrong.
		at := s.IntN(len(l))
		valueAs(t, l[:at], vars)
		valueAs(t, l[at:], vars)
		valueAs(t, slices.Insert(slices.Clone(l), at, num(1)), vars)
		l[at] = api.Node{Op: api.Op(s.IntN(17)), N: s.IntN(3)}
		valueAs(t, l, vars)
	}
	if many[api.OK] < 5000 || many[api.ErrOver] < 500 {
		t.Error(many)
	}
}

// TestP8_2Short: all short lists of some nodes: wrong ones have their error.
func TestP8_2Short(t *testing.T) {
	lists(of(2, variable(0), variable(1), api.Neg, api.Mul, api.True, api.Less, api.Not, api.And, api.Or), 5, func(l []api.Node) {
		valueAs(t, l, []int{math.MinInt64})
		valueAs(t, l, nil)
	})
}

// TestP8_2NotLookedAt: a right part that is not looked at may have no value; a left one may not, nor the right one of others.
func TestP8_2NotLookedAt(t *testing.T) {
	over := of(api.Less, api.Neg, variable(0), 1)
	vars := []int{math.MinInt64}
	yes, no := of(api.True), of(api.Not, api.True)
	for _, x := range []struct {
		l    []api.Node
		want bool
		err  api.Errno
	}{
		{over, false, api.ErrOver}, {of(api.Not, over), false, api.ErrOver},
		{of(api.And, no, over), false, api.OK}, {of(api.And, yes, over), false, api.ErrOver}, {of(api.And, over, no), false, api.ErrOver}, {of(api.And, over, yes), false, api.ErrOver},
		{of(api.Or, yes, over), true, api.OK}, {of(api.Or, no, over), false, api.ErrOver}, {of(api.Or, over, yes), false, api.ErrOver}, {of(api.Or, over, no), false, api.ErrOver},
		{of(api.Or, api.And, no, over, yes), true, api.OK}, {of(api.And, api.Or, yes, over, yes), true, api.OK}, {of(api.And, api.Or, yes, over, over), false, api.ErrOver}, {of(api.Or, api.And, no, over, over), false, api.ErrOver},
		{of(api.And, no, api.And, over, over), false, api.OK}, {of(api.Not, api.And, no, api.Or, over, yes), true, api.OK}, {of(api.Or, yes, api.Not, over), true, api.OK},
		{of(api.Unlike, 1, api.Neg, variable(0)), false, api.ErrOver}, {of(api.Equal, api.Mul, 0, api.Neg, variable(0), 0), false, api.ErrOver}, {of(api.Equal, api.Mul, api.Neg, variable(0), 0, 0), false, api.ErrOver},
		{of(api.AtMost, api.Sub, api.Add, variable(0), api.Neg, 1, variable(0), 1), false, api.ErrOver},
		// What is not looked at must be right nevertheless.
		{of(api.And, no, 1), false, api.ErrTest}, {of(api.Or, yes, 1), false, api.ErrTest}, {of(api.Or, yes, api.Less, variable(1), 1), false, api.ErrTest}, {of(api.Or, yes), false, api.ErrTest}, {of(api.Or, yes, api.Less, -1, 1), false, api.ErrTest},
	} {
		if got, err := Holds(x.l, vars); got != x.want || err != x.err {
			t.Error(x.l, got, err, x.want, x.err)
		}
		valueAs(t, x.l, vars)
	}
}

// TestP8_2Cases: the examples, and the error that is named first.
func TestP8_2Cases(t *testing.T) {
	if n, err := Value(of(api.Add, 1, api.Mul, variable(0), 2), []int{3}); n != 7 || err != api.OK {
		t.Error(n, err)
	}
	if yes, err := Holds(of(api.And, api.True, api.Less, variable(0), 3), []int{2}); !yes || err != api.OK {
		t.Error(yes, err)
	}
	for _, l := range [][]api.Node{nil, {}} {
		for _, vars := range [][]int{nil, {1}} {
			if n, err := Value(l, vars); n != 0 || err != api.ErrTest {
				t.Error(n, err)
			}
			if yes, err := Holds(l, vars); !yes || err != api.OK {
				t.Error(yes, err)
			}
		}
	}
	// Wrong, and without a value besides.
	vars := []int{math.MinInt64}
	for _, l := range [][]api.Node{of(api.Add, api.Neg, variable(0), variable(1)), of(api.Add, api.Neg, variable(0), api.True), of(api.Neg, variable(0), 1), of(api.Less, api.True, api.Neg, variable(0)), of(api.Add, api.Neg, variable(0)), of(api.Not, api.Neg, variable(0)), append(slices.Repeat(of(api.Neg), api.MaxNodes), variable(0))} {
		if n, err := Value(l, vars); n != 0 || err != api.ErrTest {
			t.Error(l, n, err)
		}
		if yes, err := Holds(l, vars); yes || err != api.ErrTest {
			t.Error(l, yes, err)
		}
	}
	// One of the other kind, without a value besides.
	if n, err := Value(of(api.Less, api.Neg, variable(0), 1), vars); n != 0 || err != api.ErrTest {
		t.Error(n, err)
	}
	if yes, err := Holds(of(api.Neg, variable(0)), vars); yes || err != api.ErrTest {
		t.Error(yes, err)
	}
	// No limit stands for variables' values, nor for how many there are.
	if n, err := Value(of(variable(99)), slices.Repeat([]int{math.MinInt64}, 100)); n != math.MinInt64 || err != api.OK {
		t.Error(n, err)
	}
	deep := append(slices.Repeat(of(api.Neg), api.MaxNodes-1), num(api.MaxValue))
	if n, err := Value(deep, nil); n != -api.MaxValue || err != api.OK {
		t.Error(n, err)
	}
}

func TestP8_3Vars(t *testing.T) {
	v := variable
	for _, x := range []struct {
		l    [][]api.Node
		want []int
	}{
		{nil, nil}, {[][]api.Node{nil, {}}, nil}, {[][]api.Node{of(1, 2, api.Add, node(0))}, nil},
		{[][]api.Node{of(v(3), v(1), v(3), v(2))}, []int{1, 2, 3}},
		{[][]api.Node{of(v(5)), nil, of(api.Add, v(2), v(5)), of(0), of(v(0))}, []int{0, 2, 5}},
		{[][]api.Node{of(v(-1), v(math.MaxInt), v(math.MinInt), v(0), v(-1))}, []int{math.MinInt, -1, 0, math.MaxInt}},
		{[][]api.Node{of(api.Node{Op: api.Num, N: 7}, api.Node{Op: api.Neg, N: 8}, api.Node{Op: 200, N: 9}, v(4))}, []int{4}},
		{[][]api.Node{slices.Repeat(of(v(2), v(1)), 1000), slices.Repeat(of(v(1), v(2)), 1000)}, []int{1, 2}},
	} {
		if got := Vars(x.l...); !slices.Equal(got, x.want) {
			t.Error(x.l, got, x.want)
		}
	}
	s := newSource(2)
	for range 500 {
		var l [][]api.Node
		there := [20]bool{}
		for range s.IntN(5) {
			e := s.tree(true, s.IntN(30), 20, 9).list()
			for _, n := range e {
				if n.Op == api.Var {
					there[n.N] = true
				}
			}
			l = append(l, e)
		}
		var want []int
		for n, is := range there {
			if is {
				want = append(want, n)
			}
		}
		if got := Vars(l...); !slices.Equal(got, want) {
			t.Error(l, got, want)
		}
	}
}

func TestP8_3All(t *testing.T) {
	a, b, c, d := of(api.True), of(api.Not, api.True), of(api.Less, 1, 2), of(api.Or, api.True, api.True)
	for _, x := range []struct {
		l    [][]api.Node
		want []api.Node
	}{
		{nil, nil}, {[][]api.Node{nil}, nil}, {[][]api.Node{nil, {}, nil}, nil},
		{[][]api.Node{a}, a}, {[][]api.Node{nil, c, nil}, c},
		{[][]api.Node{a, b}, of(api.And, a, b)}, {[][]api.Node{b, a}, of(api.And, b, a)}, {[][]api.Node{nil, a, nil, nil, b, nil}, of(api.And, a, b)},
		{[][]api.Node{a, b, c}, of(api.And, api.And, a, b, c)}, {[][]api.Node{d, c, nil, b, a}, of(api.And, api.And, api.And, d, c, b, a)},
		{[][]api.Node{of(api.And, a, b), c}, of(api.And, api.And, a, b, c)}, {[][]api.Node{a, of(api.And, b, c)}, of(api.And, a, api.And, b, c)},
		// Whatever they are.
		{[][]api.Node{of(1), of(node(0), api.Add)}, of(api.And, 1, node(0), api.Add)},
	} {
		if got := All(x.l...); !slices.Equal(got, x.want) {
			t.Error(x.l, got, x.want)
		}
	}
	if l := All(slices.Repeat([][]api.Node{a}, 200)...); len(l) != 399 || End(l, 0) != 399 {
		t.Error(len(l))
	}
}

func TestP8_3Same(t *testing.T) {
	one := of(api.Add, 1, variable(0))
	for _, x := range []struct {
		a, b []api.Node
		want bool
	}{
		{nil, nil, true}, {nil, []api.Node{}, true}, {one, nil, false}, {one, one, true}, {one, slices.Clone(one), true},
		{one, one[:2], false}, {one, of(api.Add, 1, variable(1)), false}, {one, of(api.Add, 2, variable(0)), false}, {one, of(api.Sub, 1, variable(0)), false}, {one, of(api.Add, 1, 0), false}, {one, of(api.Add, variable(0), 1), false}, {one, of(one, 1), false},
		{of(node(0)), of(node(200)), false}, {of(node(200)), of(node(200)), true}, {of(api.Node{Op: api.True, N: 1}), of(api.True), false},
	} {
		if Same(x.a, x.b) != x.want || Same(x.b, x.a) != x.want {
			t.Error(x.a, x.b, x.want)
		}
	}
}

// TestP8_4Cases: the examples, and brackets that are needed and such as are not.
func TestP8_4Cases(t *testing.T) {
	n, m := variable(0), variable(1)
	names := []string{"n", "m"}
	less := of(api.Less, n, 1)
	for want, l := range map[string][]api.Node{
		"1 + n * 2": of(api.Add, 1, api.Mul, n, 2), "(1 + n) * 2": of(api.Mul, api.Add, 1, n, 2), "1 - (2 - 3)": of(api.Sub, 1, api.Sub, 2, 3), "1 - 2 - 3": of(api.Sub, api.Sub, 1, 2, 3),
		"-5": of(api.Neg, 5), "--n": of(api.Neg, api.Neg, n), "-(n * n)": of(api.Neg, api.Mul, n, n), "!(n == 1)": of(api.Not, api.Equal, n, 1), "!(true)": of(api.Not, api.True),
		"0": of(0), "1048576": of(api.MaxValue), "m": of(m), "true": of(api.True),
		"n + (m + 1)": of(api.Add, n, api.Add, m, 1), "n + m + 1": of(api.Add, api.Add, n, m, 1), "n + (m - 1)": of(api.Add, n, api.Sub, m, 1), "n - m + 1": of(api.Add, api.Sub, n, m, 1),
		"n * (m * 2)": of(api.Mul, n, api.Mul, m, 2), "n * m * 2": of(api.Mul, api.Mul, n, m, 2), "n * (m - 2)": of(api.Mul, n, api.Sub, m, 2),
		"-n * -m": of(api.Mul, api.Neg, n, api.Neg, m), "n - -m": of(api.Sub, n, api.Neg, m), "-(n + m)": of(api.Neg, api.Add, n, m), "-n + m": of(api.Add, api.Neg, n, m), "---1": of(api.Neg, api.Neg, api.Neg, 1),
		"n + 1 <= m * 2": of(api.AtMost, api.Add, n, 1, api.Mul, m, 2), "-n != 0": of(api.Unlike, api.Neg, n, 0), "n < m": of(api.Less, n, m), "n == m": of(api.Equal, n, m),
		"n < 1 && n < 1 && true": of(api.And, api.And, less, less, api.True), "n < 1 && (n < 1 && true)": of(api.And, less, api.And, less, api.True),
		"true || n < 1 || true": of(api.Or, api.Or, api.True, less, api.True), "true || (n < 1 || true)": of(api.Or, api.True, api.Or, less, api.True),
		"true && n < 1 || true": of(api.Or, api.And, api.True, less, api.True), "true || n < 1 && true": of(api.Or, api.True, api.And, less, api.True), "(true || n < 1) && true": of(api.And, api.Or, api.True, less, api.True), "true && (n < 1 || true)": of(api.And, api.True, api.Or, less, api.True),
		"!(!(true))": of(api.Not, api.Not, api.True), "!(true) && !(n < 1)": of(api.And, api.Not, api.True, api.Not, less), "!(true && n < 1)": of(api.Not, api.And, api.True, less),
	} {
		if s, err := Print(l, names); s != want || err != api.OK {
			t.Error(want, s, err)
		}
	}
	// Names are told as they are.
	for _, name := range []string{"", "a b", "(", "\xff\x00", "ä"} {
		if s, err := Print(of(api.Neg, n), []string{name}); s != "-"+name || err != api.OK {
			t.Error(name, s, err)
		}
	}
}

// TestP8_4Trees: the text of trees of all sizes, against another way; and that wrong lists have none.
func TestP8_4Trees(t *testing.T) {
	s := newSource(3)
	names := []string{"n", "m", "x2", "longer_name_here"}
	check := func(l []api.Node, names []string) {
		want, wantErr := "", api.ErrTest
		if tree := rightTree(l, len(names)); tree != nil {
			want, wantErr = tree.words(names), api.OK
		}
		if got, err := Print(l, names); got != want || err != wantErr {
			t.Fatal(l, got, err, want, wantErr)
		}
	}
	for k := range 10000 {
		l := s.tree(k%2 == 0, 1+s.IntN(api.MaxNodes), 4, 12).list()
		check(l, names)
		check(l, names[:2])
		at := s.IntN(len(l))
		check(l[:at], names)
		check(append(l, num(1)), names)
		l[at] = api.Node{Op: api.Op(s.IntN(17)), N: s.IntN(3)}
		check(l, names)
	}
	check(nil, nil)
	check(nil, names)
	check(of(variable(0)), nil)
	check(chain(api.Or, api.True, api.MaxNodes+1), nil)
	check(chain(api.Or, api.True, api.MaxNodes-1), nil)
}

// TestP8_5All: Holds of All is true just if Holds of each is, where none is ErrOver.
func TestP8_5All(t *testing.T) {
	s := newSource(4)
	yes, no := 0, 0
	for k := range 3000 {
		vars := []int{s.IntN(5) - 2, s.IntN(5) - 2}
		var l [][]api.Node
		want := true
		for range s.IntN(5) {
			e := s.tree(false, 1+s.IntN(12), 2, 3).list()
			holds, err := Holds(e, vars)
			if err != api.OK {
				t.Fatal(e, err)
			}
			if k%4 == 0 && !holds {
				e = of(api.Not, e)
				holds = true
			}
			want = want && holds
			l = append(l, e, nil)
		}
		if got, err := Holds(All(l...), vars); got != want || err != api.OK {
			t.Fatal(l, got, err, want)
		}
		if want {
			yes++
		} else {
			no++
		}
	}
	if yes < 500 || no < 500 {
		t.Error("few", yes, no)
	}
}

// TestP8_6Turned: Value of Neg of Neg, and of a sum the other way round, is the same, where it is one.
func TestP8_6Turned(t *testing.T) {
	s := newSource(5)
	vars := []int{math.MaxInt64, math.MinInt64, 3, -api.MaxValue}
	some := 0
	for range 3000 {
		a, b := s.tree(true, 1+s.IntN(20), 4, api.MaxValue).list(), s.tree(true, 1+s.IntN(20), 4, api.MaxValue).list()
		n, err := Value(a, vars)
		if m, again := Value(of(api.Neg, api.Neg, a), vars); again == api.OK && (m != n || err != api.OK) || err == api.OK && again != api.OK && n != math.MinInt64 {
			t.Fatal(a, n, m)
		}
		n, err = Value(of(api.Add, a, b), vars)
		if m, other := Value(of(api.Add, b, a), vars); m != n || err != other {
			t.Fatal(a, b, n, m)
		}
		if err == api.OK {
			some++
		}
	}
	if some < 300 {
		t.Error("few", some)
	}
}

// TestP8_7Texts: unlike right lists have unlike texts: all short ones, and greater ones.
func TestP8_7Texts(t *testing.T) {
	names := []string{"a", "b"}
	seen := map[string][]api.Node{}
	check := func(l []api.Node) {
		s, err := Print(l, names)
		if err != api.OK {
			return
		}
		if o, there := seen[s]; there && !Same(o, l) {
			t.Fatal(s, o, l)
		}
		seen[s] = slices.Clone(l)
	}
	all := of(1, variable(0), variable(1))
	for op := api.Neg; op <= api.Or; op++ {
		all = append(all, node(op))
	}
	lists(all, 5, check)
	lists(of(1, variable(0), api.Neg, api.Add, api.Sub, api.Mul), 7, check)
	lists(of(api.True, api.Not, api.And, api.Or), 8, check)
	s := newSource(6)
	for k := range 5000 {
		check(s.tree(k%2 == 0, 1+s.IntN(30), 2, 2).list())
	}
	if len(seen) < 10000 {
		t.Error("few", len(seen))
	}
}

// TestP3StaysAsItIs: what is handed in stays as it is, spare room too; what is answered is the caller's.
func TestP3StaysAsItIs(t *testing.T) {
	room := of(api.And, api.Less, variable(0), 3, api.True, 9, 9)
	vars, names := []int{1, 7, 7}, []string{"a", "b", "b"}
	before := slices.Clone(room)
	l := room[:5]
	End(l, 0)
	Right(l, 1)
	IsTruth(l)
	Value(l[1:4], vars[:1])
	Holds(l, vars[:1])
	Same(l, room)
	Print(l, names[:1])
	got := Vars(l, l)
	got[0] = 77
	_ = append(got, 78)
	for _, lists := range [][][]api.Node{{l}, {l, l}, {nil, l}, {room[:4], room[4:5]}} {
		given := slices.Clone(lists)
		all := All(lists...)
		for i := range all {
			all[i] = node(200)
		}
		_ = append(all, node(201))
		for i := range given {
			if !slices.Equal(lists[i], given[i]) {
				t.Error("changed the list of lists")
			}
		}
	}
	if !slices.Equal(room, before) || !slices.Equal(vars, []int{1, 7, 7}) || !slices.Equal(names, []string{"a", "b", "b"}) {
		t.Error(room, vars, names)
	}
	// Nothing is kept: the same again.
	if s, err := Print(l, names); s != "a < 3 && true" || err != api.OK {
		t.Error(s, err)
	}
	if got := Vars(l); !slices.Equal(got, []int{0}) {
		t.Error(got)
	}
}

// FuzzP1 hands raw lists to all calls: none panics, and Right says which of them have an answer.
func FuzzP1(f *testing.F) {
	f.Add([]byte{4, 1, 1, 6, 0}, 3)
	f.Add([]byte{13, 7, 14, 8, 2, 1}, -1)
	f.Fuzz(func(t *testing.T, raw []byte, k int) {
		var l []api.Node
		for at, b := range raw {
			l = append(l, api.Node{Op: api.Op(b % 32), N: int(b/32) * (at % 2)})
		}
		vars := []int{k, -k, k / 3}
		valueAs(t, l, vars)
		text, err := Print(l, []string{"a", "b", "c"})
		if (err == api.OK) != (rightTree(l, 3) != nil) || (Right(l, 3) == api.OK) != (err == api.OK) || strings.Contains(text, "  ") {
			t.Fatal(l, text, err)
		}
		End(l, k)
		Vars(l, l)
		IsTruth(l)
		if !Same(All(l), l) {
			t.Fatal(l)
		}
	})
}
