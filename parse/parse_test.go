package parse

import (
	"fmt"
	"go/ast"
	goparser "go/parser"
	"go/token"
	"math"
	"reflect"
	"slices"
	"strconv"
	"strings"
	"testing"

	"gnomon/api"
	"gnomon/lex"
	"gnomon/net"
)

// sampleText says the network of which goals, expressions and guards speak here; some of its locations are called as other things are.
const sampleText = `clock x, y; int n in -3 .. 9 := 0; int m in 0 .. 5 := 1; chan c, d; auto A { loc a; loc b; loc x; } auto B { loc a; loc n; }`

func sample() api.Net {
	return api.Net{
		Clocks: []string{"x", "y"}, Chans: []string{"c", "d"},
		Vars:  []api.Variable{{Name: "n", Lo: -3, Hi: 9}, {Name: "m", Hi: 5, Init: 1}},
		Autos: []api.Auto{{Name: "A", Locs: []api.Loc{{Name: "a"}, {Name: "b"}, {Name: "x"}}}, {Name: "B", Locs: []api.Loc{{Name: "a"}, {Name: "n"}}}},
	}
}

// Nodes for short.

func num(n int) api.Node { return api.Node{Op: api.Num, N: n} }

var (
	varN = api.Node{Op: api.Var, N: 0}
	varM = api.Node{Op: api.Var, N: 1}
)

// of is a list of nodes, Ops and lists.
func of(l ...any) []api.Node {
	var out []api.Node
	for _, x := range l {
		switch v := x.(type) {
		case api.Op:
			out = append(out, api.Node{Op: v})
		case api.Node:
			out = append(out, v)
		case []api.Node:
			out = append(out, v...)
		case int:
			out = append(out, num(v))
		}
	}
	return out
}

// marked is a text whose mark, a @ that is left out of it, tells a place.
func marked(s string) (string, int) {
	at := strings.IndexByte(s, '@')
	return s[:at] + s[at+1:], at
}

// answer is what one of the four calls says.
type answer struct {
	value any
	err   api.Errno
	at    int
}

func asAnswer[T any](v T, err api.Errno, at int) answer { return answer{v, err, at} }

// calls are the four calls, of the sample.
var calls = map[string]func(s string) answer{
	"net":    func(s string) answer { return asAnswer(Net(s)) },
	"goal":   func(s string) answer { return asAnswer(Goal(sample(), s)) },
	"expr":   func(s string) answer { return asAnswer(Expr(sample(), s)) },
	"guards": func(s string) answer { return asAnswer(Guards(sample(), s)) },
}

// alike: an empty list is as nil.
func alike(a, b any) bool {
	switch x := a.(type) {
	case api.Net:
		return net.Same(x, b.(api.Net))
	case api.Goal:
		return net.SameGoal(x, b.(api.Goal))
	case []api.Node:
		return slices.Equal(x, b.([]api.Node))
	case []api.Guard:
		return slices.Equal(x, b.([]api.Guard))
	}
	return false
}

func isZero(v any) bool {
	r := reflect.ValueOf(v)
	return r.IsZero() || r.Kind() == reflect.Slice && r.Len() == 0
}

// refuses holds a call to an error at the mark of a text, and to zero values beside it.
func refuses(t *testing.T, call, text string, err api.Errno) {
	t.Helper()
	s, at := marked(text)
	if got := calls[call](s); got.err != err || got.at != at || !isZero(got.value) {
		t.Errorf("%s %q: %+v, not %d at %d", call, text, got, err, at)
	}
}

func reads(t *testing.T, call, text string, want any) {
	t.Helper()
	if got := calls[call](text); got.err != api.OK || got.at != 0 || !alike(got.value, want) {
		t.Errorf("%s %q: %+v, not %+v", call, text, got, want)
	}
}

// repeated is a text so many times, with another one between.
func repeated(s string, times int, between string) string {
	return strings.Join(slices.Repeat([]string{s}, times), between)
}

// numbered are so many names, with a text between.
func numbered(head string, many int, between string) string {
	var l []string
	for i := range many {
		l = append(l, head+strconv.Itoa(i))
	}
	return strings.Join(l, between)
}

// TestP11_1Net: the examples, and ordinary networks.
func TestP11_1Net(t *testing.T) {
	reads(t, "net", "clock x; auto A { loc a; }", api.Net{Clocks: []string{"x"}, Autos: []api.Auto{{Name: "A", Locs: []api.Loc{{Name: "a"}}}}})
	reads(t, "net", sampleText, sample())
	reads(t, "net", "clock x; auto A { loc a inv x <= 5; loc b; edge a -> b when x >= 3 do x := 0; }", api.Net{Clocks: []string{"x"}, Autos: []api.Auto{{
		Name:  "A",
		Locs:  []api.Loc{{Name: "a", Inv: []api.Guard{{Clock: 1, Cmp: api.Le, N: 5}}}, {Name: "b"}},
		Edges: []api.Edge{{To: 1, Guards: []api.Guard{{Clock: 1, Cmp: api.Ge, N: 3}}, Sets: []api.Set{{Clock: 1}}}},
	}}})
	text := `# one that has all
		chan c, d; clock x; int n in -1048576 .. 1048576 := -7; auto A {
			loc a urgent inv x <= 5 && y < -3 && y == 1048576; loc b committed; edge b -> a; loc c inv y > 1 && x >= -1048576;
			edge c -> c when y > 2 && n < 3 && x == -2 && (n == 1 || true) sync d? do n := n + 1, y := -1, x := 1048576, n := 3;
			edge a -> b sync c!; edge a -> a when true do x := 0; edge a -> a when (true) && x > 0;
		} int k in 2 .. 2 := 2; clock z; auto B { loc a; edge a -> a when z < 1 && k == n; }`
	text = strings.Replace(text, "clock x;", "clock x, y;", 1)
	test := of(api.And, api.Less, varN, 3, api.Or, api.Equal, varN, 1, api.True)
	reads(t, "net", text, api.Net{
		Clocks: []string{"x", "y", "z"}, Chans: []string{"c", "d"},
		Vars: []api.Variable{{Name: "n", Lo: -api.MaxValue, Hi: api.MaxValue, Init: -7}, {Name: "k", Lo: 2, Hi: 2, Init: 2}},
		Autos: []api.Auto{
			{
				Name: "A",
				Locs: []api.Loc{
					{Name: "a", Kind: api.Urgent, Inv: []api.Guard{{Clock: 1, Cmp: api.Le, N: 5}, {Clock: 2, Cmp: api.Lt, N: -3}, {Clock: 2, Cmp: api.Eq, N: api.MaxConst}}},
					{Name: "b", Kind: api.Committed},
					{Name: "c", Inv: []api.Guard{{Clock: 2, Cmp: api.Gt, N: 1}, {Clock: 1, Cmp: api.Ge, N: -api.MaxConst}}},
				},
				Edges: []api.Edge{
					{From: 1},
					{From: 2, To: 2, Guards: []api.Guard{{Clock: 2, Cmp: api.Gt, N: 2}, {Clock: 1, Cmp: api.Eq, N: -2}}, Test: test, Chan: 2, Sets: []api.Set{{Expr: of(api.Add, varN, 1)}, {Clock: 2, N: -1}, {Clock: 1, N: api.MaxConst}, {Expr: of(3)}}},
					{To: 1, Chan: 1, Send: true},
					{Sets: []api.Set{{Clock: 1}}},
					{Guards: []api.Guard{{Clock: 1, Cmp: api.Gt}}, Test: of(api.True)},
				},
			},
			{Name: "B", Locs: []api.Loc{{Name: "a"}}, Edges: []api.Edge{{Guards: []api.Guard{{Clock: 3, Cmp: api.Lt, N: 1}}, Test: of(api.Equal, varM, varN)}}},
		},
	})
}

// TestP11_1Goal: the examples, and each kind of atom.
func TestP11_1Goal(t *testing.T) {
	x3 := api.Guard{Clock: 1, Cmp: api.Gt, N: 3}
	for s, want := range map[string]api.Goal{
		"A.a && x > 3 || true":           {{Locs: []api.At{{}}, Guards: []api.Guard{x3}}, {}},
		"A.x":                            {{Locs: []api.At{{Loc: 2}}}},
		"B.n && A.b && B.n":              {{Locs: []api.At{{Auto: 1, Loc: 1}, {Loc: 1}, {Auto: 1, Loc: 1}}}},
		"x>3":                            {{Guards: []api.Guard{x3}}},
		"y == -4 && x > 3":               {{Guards: []api.Guard{{Clock: 2, Cmp: api.Eq, N: -4}, x3}}},
		"n + 1 < 3 && !(n == 2) || true": {{Test: of(api.And, api.Less, api.Add, varN, 1, 3, api.Not, api.Equal, varN, 2)}, {}},
		"n < 1 && x > 3 && m < 2 && A.b && n < 3 && B.a": {{Locs: []api.At{{Loc: 1}, {Auto: 1}}, Guards: []api.Guard{x3}, Test: of(api.And, api.And, api.Less, varN, 1, api.Less, varM, 2, api.Less, varN, 3)}},
		"A.a || A.b || n == m":                           {{Locs: []api.At{{}}}, {Locs: []api.At{{Loc: 1}}}, {Test: of(api.Equal, varN, varM)}},
		"(n < 1 || true) && A.a || -n == 2":              {{Locs: []api.At{{}}, Test: of(api.Or, api.Less, varN, 1, api.True)}, {Test: of(api.Equal, api.Neg, varN, 2)}},
	} {
		reads(t, "goal", s, want)
	}
}

// TestP11_1Expr: a sum or cases, and what they mean.
func TestP11_1Expr(t *testing.T) {
	for s, want := range map[string][]api.Node{
		"0": of(0), "7": of(7), "n": of(varN), "(n)": of(varN), "((m))": of(varM), "-1": of(api.Neg, 1), "--n": of(api.Neg, api.Neg, varN), "-(-(n))": of(api.Neg, api.Neg, varN),
		"1 + n * 2": of(api.Add, 1, api.Mul, varN, 2), "(1 + n) * 2": of(api.Mul, api.Add, 1, varN, 2), "1 - 2 - 3": of(api.Sub, api.Sub, 1, 2, 3), "1 - (2 - 3)": of(api.Sub, 1, api.Sub, 2, 3),
		"1 - 2 + 3 - 4": of(api.Sub, api.Add, api.Sub, 1, 2, 3, 4), "n * m * 2": of(api.Mul, api.Mul, varN, varM, 2), "n * (m * 2)": of(api.Mul, varN, api.Mul, varM, 2), "1 * 2 - 3 * 4 + 5": of(api.Add, api.Sub, api.Mul, 1, 2, api.Mul, 3, 4, 5),
		"-n * m": of(api.Mul, api.Neg, varN, varM), "n * -m": of(api.Mul, varN, api.Neg, varM), "-n - -m": of(api.Sub, api.Neg, varN, api.Neg, varM), "-(n * m)": of(api.Neg, api.Mul, varN, varM), "1048576": of(api.MaxValue), "-1048576": of(api.Neg, api.MaxValue),
		// Comparisons, and which change places.
		"n < m": of(api.Less, varN, varM), "n <= m": of(api.AtMost, varN, varM), "n == m": of(api.Equal, varN, varM), "n != m": of(api.Unlike, varN, varM), "n >= m": of(api.AtMost, varM, varN), "n > m": of(api.Less, varM, varN),
		"n + 1 > m * 2": of(api.Less, api.Mul, varM, 2, api.Add, varN, 1), "-1 >= (n)": of(api.AtMost, varN, api.Neg, 1), "1 == n - m": of(api.Equal, 1, api.Sub, varN, varM),
		// Tests.
		"true": of(api.True), "(true)": of(api.True), "((true))": of(api.True), "!(true)": of(api.Not, api.True), "!(!(true))": of(api.Not, api.Not, api.True), "!((n < 1))": of(api.Not, api.Less, varN, 1),
		"true && true": of(api.And, api.True, api.True), "true || true": of(api.Or, api.True, api.True), "true && n < 1": of(api.And, api.True, api.Less, varN, 1), "(true && n < 1)": of(api.And, api.True, api.Less, varN, 1),
		"n<1 && n<2 && n<3": of(api.And, api.And, api.Less, varN, 1, api.Less, varN, 2, api.Less, varN, 3), "n<1 && (n<2 && n<3)": of(api.And, api.Less, varN, 1, api.And, api.Less, varN, 2, api.Less, varN, 3),
		"n<1 || n<2 || n<3": of(api.Or, api.Or, api.Less, varN, 1, api.Less, varN, 2, api.Less, varN, 3), "n<1 || (n<2 || n<3)": of(api.Or, api.Less, varN, 1, api.Or, api.Less, varN, 2, api.Less, varN, 3),
		"n<1 || n<2 && n<3 || n<4": of(api.Or, api.Or, api.Less, varN, 1, api.And, api.Less, varN, 2, api.Less, varN, 3, api.Less, varN, 4), "n<1 && n<2 || n<3": of(api.Or, api.And, api.Less, varN, 1, api.Less, varN, 2, api.Less, varN, 3), "n<1 && (n<2 || n<3)": of(api.And, api.Less, varN, 1, api.Or, api.Less, varN, 2, api.Less, varN, 3),
		"!(n<1 || true) && n<2": of(api.And, api.Not, api.Or, api.Less, varN, 1, api.True, api.Less, varN, 2),
		// What a bracket opens.
		"(n) < 3": of(api.Less, varN, 3), "(n < 3)": of(api.Less, varN, 3), "((n) < 3)": of(api.Less, varN, 3), "((n)) < 3": of(api.Less, varN, 3), "((n < 3))": of(api.Less, varN, 3), "(n) + 1 < 3": of(api.Less, api.Add, varN, 1, 3), "(n) - 1 < 3": of(api.Less, api.Sub, varN, 1, 3), "(n) * 2 < 3": of(api.Less, api.Mul, varN, 2, 3),
		"(n) <= 3": of(api.AtMost, varN, 3), "(n) == 3": of(api.Equal, varN, 3), "(n) != 3": of(api.Unlike, varN, 3), "(n) >= 3": of(api.AtMost, 3, varN), "(n) > 3": of(api.Less, 3, varN), "(n + 1) * (m) > (3)": of(api.Less, 3, api.Mul, api.Add, varN, 1, varM),
		"(n < 3) && (m) < 2": of(api.And, api.Less, varN, 3, api.Less, varM, 2), "((n) < 3 || (m < 2)) && true": of(api.And, api.Or, api.Less, varN, 3, api.Less, varM, 2, api.True), "3 < (n)": of(api.Less, 3, varN), "((n + 1) * 2 < 3)": of(api.Less, api.Mul, api.Add, varN, 1, 2, 3),
		"!((n) < 3)": of(api.Not, api.Less, varN, 3), "-(n) < 3": of(api.Less, api.Neg, varN, 3), "(n < 3) || (n) < 3 && (true)": of(api.Or, api.Less, varN, 3, api.And, api.Less, varN, 3, api.True),
	} {
		reads(t, "expr", s, want)
	}
}

// TestP11_1Guards: guards, and the edges of their numbers.
func TestP11_1Guards(t *testing.T) {
	for s, want := range map[string][]api.Guard{
		"x < 1": {{Clock: 1, Cmp: api.Lt, N: 1}}, "x <= 1": {{Clock: 1, Cmp: api.Le, N: 1}}, "y == 1": {{Clock: 2, Cmp: api.Eq, N: 1}}, "y >= 1": {{Clock: 2, Cmp: api.Ge, N: 1}}, "y > 1": {{Clock: 2, Cmp: api.Gt, N: 1}},
		"x < 0": {{Clock: 1, Cmp: api.Lt}}, "x < -1": {{Clock: 1, Cmp: api.Lt, N: -1}}, "x<-1": {{Clock: 1, Cmp: api.Lt, N: -1}}, "x < - 0": {{Clock: 1, Cmp: api.Lt}}, "x < 1048576": {{Clock: 1, Cmp: api.Lt, N: api.MaxConst}}, "x < -1048576": {{Clock: 1, Cmp: api.Lt, N: -api.MaxConst}},
		"y > 2 && x < 1 && y > 2": {{Clock: 2, Cmp: api.Gt, N: 2}, {Clock: 1, Cmp: api.Lt, N: 1}, {Clock: 2, Cmp: api.Gt, N: 2}},
	} {
		reads(t, "guards", s, want)
	}
}

// TestP11_1True: alone, in brackets, and beside other tests, of an edge and of a part.
func TestP11_1True(t *testing.T) {
	for s, want := range map[string][]api.Node{
		"true": nil, "true && x < 1": nil, "x < 1 && true": nil, "x < 1 && true && y < 2": nil,
		"(true)": of(api.True), "(true) && x < 1": of(api.True), "((true))": of(api.True), "true && true": of(api.And, api.True, api.True), "true && x < 1 && true": of(api.And, api.True, api.True), "true && true && true": of(api.And, api.And, api.True, api.True, api.True),
		"true && n < 1": of(api.And, api.True, api.Less, varN, 1), "n < 1 && true": of(api.And, api.Less, varN, 1, api.True), "n < 1 && x < 3 && true": of(api.And, api.Less, varN, 1, api.True), "true && (true)": of(api.And, api.True, api.True), "(true || true)": of(api.Or, api.True, api.True), "!(true)": of(api.Not, api.True), "(true && n < 1)": of(api.And, api.True, api.Less, varN, 1),
	} {
		n, err, at := Net("clock x, y; int n in 0 .. 1 := 0; auto A { loc a; edge a -> a when " + s + "; }")
		if err != api.OK || at != 0 || !slices.Equal(n.Autos[0].Edges[0].Test, want) {
			t.Error(s, n, err, at)
		}
		g, err, at := Goal(sample(), s+" || A.b && "+s)
		if err != api.OK || at != 0 || len(g) != 2 || !slices.Equal(g[0].Test, want) || !slices.Equal(g[1].Test, want) || len(g[1].Locs) != 1 {
			t.Error(s, g, err, at)
		}
	}
}

// TestP11_1Same: texts made in all forms of the grammar say what they were made of.
func TestP11_1Same(t *testing.T) {
	s := newSource(1)
	for range 4000 {
		text := s.loose(s.network())
		if n, err, at := Net(text); err != api.OK || at != 0 || !net.Same(n, s.net) {
			t.Fatalf("%s\n%+v, not %+v: %d at %d", text, n, s.net, err, at)
		}
		want, text := s.goal()
		text = s.loose(text)
		if g, err, at := Goal(s.net, text); err != api.OK || at != 0 || !net.SameGoal(g, want) {
			t.Fatalf("%s\n%+v, not %+v: %d at %d", text, g, want, err, at)
		}
		sum, truth := s.number(4), s.truth(4)
		for tree, text := range map[*spoken]string{sum: s.loose(s.sumText(sum)), truth: s.loose(s.casesText(truth))} {
			if l, err, at := Expr(s.net, text); err != api.OK || at != 0 || !slices.Equal(l, tree.nodes()) {
				t.Fatalf("%s\n%+v, not %+v: %d at %d", text, l, tree.nodes(), err, at)
			}
		}
		if guards, texts := s.guards(5); len(guards) > 0 {
			text := s.loose(strings.Join(texts, " && "))
			if l, err, at := Guards(s.net, text); err != api.OK || at != 0 || !slices.Equal(l, guards) {
				t.Fatalf("%s\n%+v, not %+v: %d at %d", text, l, guards, err, at)
			}
		}
	}
}

// goNodes are the nodes of what Go's own parser makes of an expression.
func goNodes(n api.Net, e ast.Expr) []api.Node {
	switch x := e.(type) {
	case *ast.ParenExpr:
		return goNodes(n, x.X)
	case *ast.BasicLit:
		k, _ := strconv.Atoi(x.Value)
		return of(k)
	case *ast.Ident:
		if x.Name == "true" {
			return of(api.True)
		}
		_, k := net.Find(n, x.Name)
		return of(api.Node{Op: api.Var, N: k})
	case *ast.UnaryExpr:
		return of(map[token.Token]api.Op{token.SUB: api.Neg, token.NOT: api.Not}[x.Op], goNodes(n, x.X))
	case *ast.BinaryExpr:
		a, b := goNodes(n, x.X), goNodes(n, x.Y)
		switch x.Op {
		case token.GTR:
			return of(api.Less, b, a)
		case token.GEQ:
			return of(api.AtMost, b, a)
		}
		return of(map[token.Token]api.Op{token.ADD: api.Add, token.SUB: api.Sub, token.MUL: api.Mul, token.LSS: api.Less, token.LEQ: api.AtMost, token.EQL: api.Equal, token.NEQ: api.Unlike, token.LAND: api.And, token.LOR: api.Or}[x.Op], a, b)
	}
	return nil
}

// TestP11_1AsGo: what binds more is as in Go, whose parser reads the same texts.
func TestP11_1AsGo(t *testing.T) {
	s := newSource(2)
	s.net = sample()
	for k := range 6000 {
		text := s.sumText(s.number(4))
		if k%2 == 0 {
			text = s.casesText(s.truth(4))
		}
		e, bad := goparser.ParseExpr(text)
		if bad != nil {
			t.Fatal(text, bad)
		}
		if l, err, _ := Expr(s.net, text); err != api.OK || !slices.Equal(l, goNodes(s.net, e)) {
			t.Fatal(text, l, err)
		}
	}
}

// netFaults are texts of networks with their errors.
func netFaults() map[string]api.Errno {
	head := "clock x, y; int n in 0 .. 9 := 0; chan c; auto A { loc a; loc b; "
	l := map[string]api.Errno{
		// No text, and no automaton.
		"@": api.ErrEnd, " \n# x\n@": api.ErrEnd, "clock x;@": api.ErrEnd, "clock x; chan c; int n in 0 .. 1 := 0; # auto A { loc a; }@": api.ErrEnd,
		// What is no declaration.
		"@x": api.ErrSyntax, "@;": api.ErrSyntax, "clock x;@;": api.ErrSyntax, "@loc a;": api.ErrSyntax, "@reach": api.ErrSyntax, "@3": api.ErrSyntax, "auto A { loc a; } @}": api.ErrSyntax, "auto A { loc a; } @edge": api.ErrSyntax, "@true": api.ErrSyntax,
		// Names that are to be declared.
		"clock @;": api.ErrSyntax, "clock @3;": api.ErrSyntax, "clock x@": api.ErrEnd, "clock @": api.ErrEnd, "clock x @y;": api.ErrSyntax, "clock x, @;": api.ErrSyntax, "clock x,@": api.ErrEnd,
		"clock x; clock @x;": api.ErrName, "clock x, @x;": api.ErrName, "clock x; chan @x;": api.ErrName, "clock x; int @x in 0 .. 1 := 0;": api.ErrName, "clock x; auto @x { loc a; }": api.ErrName, "chan x; clock @x;": api.ErrName, "int x in 0 .. 1 := 0; clock @x;": api.ErrName, "auto x { loc a; } clock @x;": api.ErrName, "auto x { loc a; } auto @x { loc a; }": api.ErrName, "int x in 0 .. 1 := 0; int @x in 0 .. 1 := 0;": api.ErrName, "chan x, y, @x;": api.ErrName,
		"clock @clock;": api.ErrName, "clock @true;": api.ErrName, "chan @in;": api.ErrName, "int @int in 0 .. 1 := 0;": api.ErrName, "int @in 0 .. 1 := 0;": api.ErrName, "auto @loc { loc a; }": api.ErrName, "auto A { loc @urgent; }": api.ErrName, "auto A { loc @edge; }": api.ErrName, "clock @never;": api.ErrName, "clock @abcdefghijklmnopq;": api.ErrName, "auto A { loc @abcdefghijklmnopq; }": api.ErrName, "clock abcdefghijklmnop; auto A { loc abcdefghijklmnop; } @.": api.ErrSyntax,
		"auto A { loc a; loc @a; }": api.ErrName, "auto A { loc a; loc b urgent; loc c; loc @b; }": api.ErrName, "auto A { loc a; } auto B { loc b; loc a; loc @b; }": api.ErrName, "auto A { loc A; loc @A; }": api.ErrName, "auto A { loc @3; }": api.ErrSyntax, "auto A { loc @": api.ErrEnd,
		// Variables.
		"int n @0 .. 1 := 0;": api.ErrSyntax, "int n in @.. 1 := 0;": api.ErrSyntax, "int n in @x .. 1 := 0;": api.ErrSyntax, "int n in 0 @. 1 := 0;": api.ErrSyntax, "int n in 0 @1 := 0;": api.ErrSyntax, "int n in 0 .. 1 @= 0;": api.ErrChar, "int n in 0 .. 1 @;": api.ErrSyntax, "int n in 0 .. 1 := @;": api.ErrSyntax, "int n in 0 .. 1 := 0@": api.ErrEnd, "int n in -@-1 .. 1 := 0;": api.ErrSyntax, "int n in -@": api.ErrEnd, "int n in 0 .. @+1 := 0;": api.ErrSyntax, "int n@, m in 0 .. 1 := 0;": api.ErrSyntax, "int n in 0 .. 1 := 0 @+ 1;": api.ErrSyntax,
		"int n in 3 .. @2 := 0;": api.ErrVar, "int n in 3 .. -@3 := 0;": api.ErrVar, "int n in -3 .. -@4 := 0;": api.ErrVar, "int n in 0 .. 3 := @4;": api.ErrVar, "int n in 0 .. 3 := -@1;": api.ErrVar, "int n in 2 .. 3 := @1;": api.ErrVar, "int n in -3 .. -2 := -@1;": api.ErrVar, "int n in -3 .. -2 := -@4;": api.ErrVar, "int n in -3 .. -2 := @0;": api.ErrVar,
		"int n in @1048577 .. 1 := 0;": api.ErrNumber, "int n in -@1048577 .. 1 := 0;": api.ErrNumber, "int n in 0 .. @1048577 := 0;": api.ErrNumber, "int n in 0 .. -@1048577 := 0;": api.ErrNumber, "int n in 0 .. 1048576 := @1048577;": api.ErrNumber, "int n in 0 .. 1 := -@1048577;": api.ErrNumber, "int n in 0 .. 1 := @2147483647;": api.ErrNumber, "int n in 0 .. 1 := @2147483648;": api.ErrNumber,
		// Automata.
		"auto A { @}": api.ErrSyntax, "auto A @loc a; }": api.ErrSyntax, "auto @{ }": api.ErrSyntax, "auto A {@": api.ErrEnd, "auto A { loc a;@": api.ErrEnd, "auto A { loc a; @clock x; }": api.ErrSyntax, "auto A { loc a; @;}": api.ErrSyntax, "auto A { @x }": api.ErrSyntax, "auto A@": api.ErrEnd, "auto A { loc a; } auto B { @}": api.ErrSyntax, "auto A { edge @a -> a; loc a; }": api.ErrName, "auto A { loc a; }@;": api.ErrSyntax,
		// Locations.
		"auto A { loc a @b; }": api.ErrSyntax, "auto A { loc a urgent @committed; }": api.ErrSyntax, "auto A { loc a @}": api.ErrSyntax, "auto A { loc a@": api.ErrEnd, "clock x; auto A { loc a inv x < 3 @urgent; }": api.ErrSyntax, "clock x; auto A { loc a inv @; }": api.ErrSyntax, "clock x; auto A { loc a inv@": api.ErrEnd, "clock x; auto A { loc a inv x < 3 && @; }": api.ErrSyntax, "clock x; auto A { loc a inv x < 3 @|| x > 3; }": api.ErrSyntax, "clock x; auto A { loc a inv x < 3 @, x > 3; }": api.ErrSyntax, "auto A { loc a inv @x < 3; } clock x;": api.ErrName, "clock x; auto A { loc a inv @true; }": api.ErrName, "clock x; auto A { loc a inv @(x < 3); }": api.ErrSyntax, "clock x; auto A { loc a inv @!(x < 3); }": api.ErrSyntax, "clock x; auto A { loc a inv @3 > x; }": api.ErrSyntax, "int n in 0 .. 1 := 0; auto A { loc a inv @n < 3; }": api.ErrName, "auto A { loc a inv @a < 3; }": api.ErrName, "auto A { loc a inv @A < 3; }": api.ErrName, "chan c; auto A { loc a inv @c < 3; }": api.ErrName,
		// Edges of locations that are not declared, or of others.
		"auto A { loc a; edge a -> @b; }": api.ErrName, "auto A { loc a; edge @b -> a; }": api.ErrName, "auto A { loc a; edge a -> @b; loc b; }": api.ErrName, "auto A { loc a; } auto B { loc b; edge @a -> b; }": api.ErrName, "auto A { loc a; edge @A -> a; }": api.ErrName, "clock x; auto A { loc a; edge a -> @x; }": api.ErrName, "auto A { loc a; edge @true -> a; }": api.ErrName, "auto A { loc a; edge @when -> a; }": api.ErrName,
	}
	for s, err := range map[string]api.Errno{
		"edge @-> b; }": api.ErrSyntax, "edge a @b; }": api.ErrSyntax, "edge a -> @; }": api.ErrSyntax, "edge a -> b@": api.ErrEnd, "edge a @- > b; }": api.ErrSyntax, "edge a -> b @}": api.ErrSyntax, "edge@": api.ErrEnd, "edge a ->@": api.ErrEnd, "edge a -> @3; }": api.ErrSyntax,
		// When.
		"edge a -> b when @; }": api.ErrSyntax, "edge a -> b when@": api.ErrEnd, "edge a -> b when x < 3 && @; }": api.ErrSyntax, "edge a -> b when x < 3 @|| x > 3; }": api.ErrSyntax, "edge a -> b when n < 3 @|| n > 3; }": api.ErrSyntax, "edge a -> b when x < 3 @n < 3; }": api.ErrSyntax, "edge a -> b when @q < 3; }": api.ErrName, "edge a -> b when @A.a; }": api.ErrName, "edge a -> b when @c < 3; }": api.ErrName, "edge a -> b when @a < 3; }": api.ErrName, "edge a -> b when @do x := 0; }": api.ErrName, "edge a -> b when @clock; }": api.ErrName, "edge a -> b when x < 3 @when x > 1; }": api.ErrSyntax, "edge a -> b when @, x > 1; }": api.ErrSyntax,
		// Sync.
		"edge a -> b sync @; }": api.ErrSyntax, "edge a -> b sync c@; }": api.ErrSyntax, "edge a -> b sync @d!; }": api.ErrName, "edge a -> b sync @x!; }": api.ErrName, "edge a -> b sync @n?; }": api.ErrName, "edge a -> b sync @A?; }": api.ErrName, "edge a -> b sync @a?; }": api.ErrName, "edge a -> b sync@": api.ErrEnd, "edge a -> b sync c@": api.ErrEnd, "edge a -> b sync c!@?; }": api.ErrSyntax, "edge a -> b sync c@!= ; }": api.ErrSyntax, "edge a -> b sync c! @when x < 3; }": api.ErrSyntax, "edge a -> b sync @!; }": api.ErrSyntax, "edge a -> b sync c! @sync c!; }": api.ErrSyntax, "edge a -> b sync @do!; }": api.ErrName,
		// Do.
		"edge a -> b do @; }": api.ErrSyntax, "edge a -> b do@": api.ErrEnd, "edge a -> b do x@; }": api.ErrSyntax, "edge a -> b do x @== 1; }": api.ErrSyntax, "edge a -> b do x := @; }": api.ErrSyntax, "edge a -> b do x := 1, @; }": api.ErrSyntax, "edge a -> b do x := @n; }": api.ErrSyntax, "edge a -> b do x := 1 @+ 1; }": api.ErrSyntax, "edge a -> b do x := @(1); }": api.ErrSyntax, "edge a -> b do x := -@-1; }": api.ErrSyntax, "edge a -> b do @q := 1; }": api.ErrName, "edge a -> b do @a := 1; }": api.ErrName, "edge a -> b do @c := 1; }": api.ErrName, "edge a -> b do @A := 1; }": api.ErrName, "edge a -> b do @true := 1; }": api.ErrName, "edge a -> b do @3 := 1; }": api.ErrSyntax, "edge a -> b do n := @x; }": api.ErrName, "edge a -> b do n := @true; }": api.ErrName, "edge a -> b do n := 1 @< 2; }": api.ErrSyntax, "edge a -> b do n := 1 @&& x := 1; }": api.ErrSyntax, "edge a -> b do n := (1@; }": api.ErrSyntax, "edge a -> b do n := 1@); }": api.ErrSyntax, "edge a -> b do x := 1 @do n := 1; }": api.ErrSyntax, "edge a -> b do x := 1 @sync c!; }": api.ErrSyntax, "edge a -> b do x := 1@": api.ErrEnd, "edge a -> b do n := n +@": api.ErrEnd, "edge a -> b do x :=@": api.ErrEnd, "edge a -> b do x@": api.ErrEnd, "edge a -> b do n := @!(n == 1); }": api.ErrSyntax, "edge a -> b do n := n @n; }": api.ErrSyntax,
		"edge a -> b do x := @1048577; }": api.ErrNumber, "edge a -> b do x := -@1048577; }": api.ErrNumber, "edge a -> b do n := @1048577; }": api.ErrNumber, "edge a -> b do n := n - @1048577; }": api.ErrNumber,
		// Two clocks.
		"edge a -> b when x @- y < 3; }": api.ErrDiagonal, "loc d inv y @- x < 3; }": api.ErrDiagonal, "loc d inv y @- y < 3; }": api.ErrDiagonal, "edge a -> b when n < 3 && x @- y": api.ErrDiagonal, "edge a -> b when x @- n < 3; }": api.ErrSyntax, "loc d inv x @- 3 < 3; }": api.ErrSyntax,
	} {
		l[head+s] = err
	}
	return l
}

// TestP11_1NetFaults: each text's error, and its place.
func TestP11_1NetFaults(t *testing.T) {
	for s, err := range netFaults() {
		refuses(t, "net", s, err)
	}
}

// TestP11_1TermFaults: of goals, expressions and guards.
func TestP11_1TermFaults(t *testing.T) {
	for s, err := range map[string]api.Errno{
		"@": api.ErrEnd, " # true\n @": api.ErrEnd, "A@": api.ErrEnd, "A.@": api.ErrEnd, "A@..a": api.ErrSyntax, "A @a": api.ErrSyntax, "A.@3": api.ErrSyntax, "A.@c": api.ErrName, "A.@z": api.ErrName, "A.@n": api.ErrName, "B.@b": api.ErrName, "A.@true": api.ErrName, "@a": api.ErrName, "@a.A": api.ErrName, "@q": api.ErrName, "@c.a": api.ErrName, "@c < 3": api.ErrName, "@reach A.a": api.ErrName, "A.a @A.b": api.ErrSyntax, "A.a @, A.b": api.ErrSyntax, "A.a &&@": api.ErrEnd, "A.a ||@": api.ErrEnd, "A.a && @|| A.b": api.ErrSyntax, "A.a && @q": api.ErrName, "@&& A.a": api.ErrSyntax, "@|| A.a": api.ErrSyntax, "A.a@;": api.ErrSyntax, "A @< 3": api.ErrSyntax, "A.a @< 3": api.ErrSyntax, "@.a": api.ErrSyntax, "A.a@)": api.ErrSyntax,
		"(@A.a)": api.ErrName, "!(@A.a)": api.ErrName, "(@x < 3)": api.ErrName, "!(@x < 3)": api.ErrName, "(n < 3 && @x < 3)": api.ErrName, "!@A.a": api.ErrSyntax, "!@x < 3": api.ErrSyntax, "!@true": api.ErrSyntax, "!@n == 3": api.ErrSyntax, "!@!(true)": api.ErrSyntax, "!@": api.ErrEnd, "!(@": api.ErrEnd, "!(true@": api.ErrEnd, "!(@)": api.ErrSyntax, "true @true": api.ErrSyntax, "true @< 3": api.ErrSyntax, "true@.a": api.ErrSyntax,
		"x@": api.ErrEnd, "x <@": api.ErrEnd, "x < -@": api.ErrEnd, "x @3": api.ErrSyntax, "x @!= 3": api.ErrSyntax, "x @+ 1 < 3": api.ErrSyntax, "x @:= 3": api.ErrSyntax, "x@.a": api.ErrSyntax, "x @&& true": api.ErrSyntax, "x < @n": api.ErrSyntax, "x < @y": api.ErrSyntax, "x < 3 @+ 1": api.ErrSyntax, "x < @(3)": api.ErrSyntax, "x < @+3": api.ErrSyntax, "x < @< 3": api.ErrSyntax, "x < 3 @< 4": api.ErrSyntax, "x@)": api.ErrSyntax,
		"x @- y < 3": api.ErrDiagonal, "x @- x": api.ErrDiagonal, "y @-x": api.ErrDiagonal, "x @- y - x": api.ErrDiagonal, "A.a && y @- x <= 3 || q": api.ErrDiagonal, "x @-": api.ErrSyntax, "x @- 3 < 3": api.ErrSyntax, "x @- n < 3": api.ErrSyntax, "x @- q < 3": api.ErrSyntax, "x @- A < 3": api.ErrSyntax, "x @- - y < 3": api.ErrSyntax, "x @- (y) < 3": api.ErrSyntax, "x < 3 @- y": api.ErrSyntax, "x < - @y": api.ErrSyntax, "n - @x < 3": api.ErrName,
		"x < @1048577": api.ErrNumber, "x < -@1048577": api.ErrNumber, "@1048577 < n": api.ErrNumber, "n < @1048577": api.ErrNumber, "n < -@1048577": api.ErrNumber, "n * (1 - @2147483647) < 3": api.ErrNumber, "x < @2147483648": api.ErrNumber, "@q < 1 && x < 2147483647": api.ErrName, "q < 1 && x < @01": api.ErrNumber, "q < 1 @$": api.ErrChar,
		"n@": api.ErrEnd, "n <@": api.ErrEnd, "n @3": api.ErrSyntax, "n @&& true": api.ErrSyntax, "n < 3 @< 4": api.ErrSyntax, "n + @< 3": api.ErrSyntax, "n < @true": api.ErrName, "n + @true < 3": api.ErrName, "n < 3 @)": api.ErrSyntax, "n < @x": api.ErrName, "n < @A": api.ErrName, "n < 3 && @c": api.ErrName, "(n@": api.ErrEnd, "(n < 3@": api.ErrEnd, "((n < 3)@": api.ErrEnd, "n@.a": api.ErrSyntax, "1@": api.ErrEnd, "-@": api.ErrEnd, "- @< 1": api.ErrSyntax, "@* 3 < 1": api.ErrSyntax, "@+ 3 < 1": api.ErrSyntax, "(n < 1 || @|| n < 1)": api.ErrSyntax, "(n < 1 && @)": api.ErrSyntax, "@)": api.ErrSyntax,
		// What a bracket opens says which token can't go on so.
		"(n@)": api.ErrSyntax, "((n@))": api.ErrSyntax, "(n@) && true": api.ErrSyntax, "(n @< 3) + 1 < 3": api.ErrSyntax, "(n @< 3) < 3": api.ErrSyntax, "(n @< 3) == (m < 3)": api.ErrSyntax, "(n @&& true) - 1": api.ErrSyntax, "(@true) * 2 < 3": api.ErrName, "(@!(true)) == 1": api.ErrSyntax, "!(n@) < 3": api.ErrSyntax, "!(n < 3) @< 3": api.ErrSyntax, "!(n < 3) @+ 1": api.ErrSyntax, "(n < 3 @< 4)": api.ErrSyntax, "(n + (m @< 3)) < 3": api.ErrSyntax, "n < (m @< 3)": api.ErrSyntax, "((n) @&& true) < 1": api.ErrSyntax, "((n @< 3) < 4)": api.ErrSyntax, "(n + 1@": api.ErrEnd, "(n@)) < 3": api.ErrSyntax,
		"(n < 3) @(m) < 2": api.ErrSyntax, "(@": api.ErrEnd, "(@)": api.ErrSyntax, "(@) < 3": api.ErrSyntax,
	} {
		refuses(t, "goal", s, err)
	}
	for s, err := range map[string]api.Errno{
		"@": api.ErrEnd, "n @n": api.ErrSyntax, "n@)": api.ErrSyntax, "(n@": api.ErrEnd, "n +@": api.ErrEnd, "n + @q": api.ErrName, "@x": api.ErrName, "@A": api.ErrName, "@c": api.ErrName, "@clock": api.ErrName, "@+ n": api.ErrSyntax, "n * @* m": api.ErrSyntax, "n @;": api.ErrSyntax, "(@)": api.ErrSyntax, "@1048577": api.ErrNumber, "n - @1048577": api.ErrNumber, "@99999999999": api.ErrNumber, "-@": api.ErrEnd, "n@.a": api.ErrSyntax, "n @-> m": api.ErrSyntax,
		"@A.a": api.ErrName, "@x < 3": api.ErrName, "true && @A.a": api.ErrName, "true && @x < 3": api.ErrName, "n @&& m < 3": api.ErrSyntax, "n < 3 &&@": api.ErrEnd, "n @; < 3": api.ErrSyntax, "n @true": api.ErrSyntax, "n + @true": api.ErrName, "n@) < 3": api.ErrSyntax, "true @; true": api.ErrSyntax, "!@": api.ErrEnd, "n @!": api.ErrSyntax, "(n@) && n < 3": api.ErrSyntax, "1 < 2 @< 3": api.ErrSyntax,
	} {
		refuses(t, "expr", s, err)
	}
	for s, err := range map[string]api.Errno{
		"@": api.ErrEnd, "@n < 3": api.ErrName, "@q < 3": api.ErrName, "@A.a": api.ErrName, "@c < 3": api.ErrName, "@true": api.ErrName, "@3 < x": api.ErrSyntax, "@(x < 3)": api.ErrSyntax, "@!(x < 3)": api.ErrSyntax, "x < 3 @|| y < 3": api.ErrSyntax, "x < 3 @, y < 3": api.ErrSyntax, "x < 3@;": api.ErrSyntax, "x < 3 &&@": api.ErrEnd, "x < 3 && @n < 3": api.ErrName, "x < 3 && @true": api.ErrName, "x@": api.ErrEnd, "x @- y < 3": api.ErrDiagonal, "x < 3 && y @- y < 3": api.ErrDiagonal, "x @- 1 < 3": api.ErrSyntax, "x @- n < 3": api.ErrSyntax, "x @!= 3": api.ErrSyntax, "x < @1048577": api.ErrNumber, "x < -@1048577": api.ErrNumber, "x < 3 @y < 3": api.ErrSyntax,
	} {
		refuses(t, "guards", s, err)
	}
}

// TestP11_1Grammar: texts with some tokens changed, against the rows of the grammar, read another way.
func TestP11_1Grammar(t *testing.T) {
	g := newGrammar(rows)
	s := newSource(3)
	seen := map[api.Errno]int{}
	check := func(start string, n api.Net, text string, got answer) {
		t.Helper()
		tokens, bad, _ := lex.All(text)
		if bad != api.OK {
			t.Fatal(text, bad)
		}
		err, at := newReader(g, n, tokens).read(start)
		place := 0
		if err != api.OK {
			place = tokens[at].At
		}
		seen[err]++
		if got.err != err || got.at != place || (err != api.OK && !isZero(got.value)) {
			t.Fatalf("%s %s: %+v, not %d at %d", start, text, got, err, place)
		}
	}
	for range 2500 {
		whole := s.network()
		if len(whole) < 600 {
			text := s.changed(whole, s.IntN(3))
			check("network", api.Net{}, text, asAnswer(Net(text)))
		}
		_, goal := s.goal()
		text := s.changed(goal, s.IntN(4))
		check("goal", s.net, text, asAnswer(Goal(s.net, text)))
		text = s.changed(s.casesText(s.truth(3)), s.IntN(3))
		start := "number"
		if slices.ContainsFunc(strings.Fields(text), func(w string) bool { return slices.Contains(strings.Fields("< <= == >= > != ! && || true"), w) }) {
			start = "truth"
		}
		check(start, s.net, text, asAnswer(Expr(s.net, text)))
		_, texts := s.guards(3)
		text = s.changed(strings.Join(texts, " && "), s.IntN(3))
		check("guards", s.net, text, asAnswer(Guards(s.net, text)))
	}
	// Any tokens behind one another.
	for range 5000 {
		text := s.changed("", 1+s.IntN(9))
		check("goal", sample(), text, asAnswer(Goal(sample(), text)))
		text = pick(s, "", "auto A {", "clock x; auto A { loc a;", "int n in") + " " + text
		check("network", api.Net{}, text, asAnswer(Net(text)))
	}
	for _, err := range []api.Errno{api.OK, api.ErrEnd, api.ErrSyntax, api.ErrName, api.ErrDiagonal, api.ErrNumber, api.ErrVar} {
		if seen[err] < 5 {
			t.Error("few", err, seen[err])
		}
	}
}

// TestP11_1Limits: as many of each as may be, and one more: with the place of that one.
func TestP11_1Limits(t *testing.T) {
	const tail = " auto Z { loc a; }"
	many := func(texts string, more string, tail string) {
		t.Helper()
		if _, err, at := Net(texts + tail); err != api.OK {
			t.Error(texts, err, at)
		}
		refuses(t, "net", texts+more+tail, api.ErrLong)
	}
	many("clock "+numbered("x", 8, ", "), ", @y", ";"+tail)
	many("clock "+numbered("x", 8, "; clock ")+";", "clock @y;", tail)
	many("chan "+numbered("c", 16, ", "), ", @d", ";"+tail)
	vars := "int " + numbered("n", 16, " in 0 .. 1 := 0; int ") + " in 0 .. 1 := 0;"
	many(vars, "int @m in 0 .. 1 := 0;", tail)
	many("auto "+numbered("A", 8, " { loc a; } auto ")+" { loc a; }", "auto @B { loc a; }", "")
	many("auto A { loc "+numbered("l", 64, "; loc ")+";", "loc @m;", "}")
	many("auto A { loc a; "+repeated("edge a -> a;", 256, " "), "@edge a -> a;", "}")
	// Each automaton has its own.
	many("auto A { loc a; "+repeated("edge a -> a;", 256, " ")+"} auto B { loc "+numbered("l", 64, "; loc ")+"; "+repeated("edge l0 -> l63;", 256, " "), "@edge l0 -> l1;", "}")
	head := "clock x, y; int n in 0 .. 1 := 0; chan c; auto A { loc a; "
	many(head+"loc b inv "+repeated("x < 1", 16, " && "), " && @y < 1", "; }")
	many(head+"edge a -> a when "+repeated("x < 1", 16, " && "), " && @y < 1", "; }")
	many(head+"edge a -> a when "+repeated("x < 1 && x > 2 && n < 2 && y > 3", 5, " && true && ")+" && n < 1 && x < 1", " && n < 1 && @y < 1 && n < 2", "; }")
	many(head+"edge a -> a do "+repeated("x := 1", 16, ", "), ", @y := 1", "; }")
	many(head+"edge a -> a do "+repeated("n := n + 1", 16, ", "), ", @n := 1", "; }")
	part := func(call, texts, more string) {
		t.Helper()
		if got := calls[call](texts); got.err != api.OK {
			t.Error(texts, got)
		}
		refuses(t, call, texts+more, api.ErrLong)
	}
	for _, first := range []string{"true", "x < 3", "n < 3", "A.a", "(n < 3)", "(n) < 3", "!(true)", "-1 < 3", "7 < n"} {
		part("goal", repeated(first, 16, " || "), " || @"+first)
		part("goal", repeated("A.a && y < 1 && true", 16, " || "), " || @"+first+" || n")
	}
	part("goal", repeated("A.a", 16, " && "), " && @B.a")
	part("goal", repeated("A.a && x < 1", 16, " && ")+" || "+repeated("A.a && x < 1", 16, " && "), " && @A.a")
	part("goal", repeated("x < 1", 16, " && "), " && @y < 1")
	part("guards", repeated("x < 1", 16, " && "), " && @y < 1")
}

// TestP11_1LimitsFirst: one more than may be, and something else besides: what is named first, of one token; the first one, of several.
func TestP11_1LimitsFirst(t *testing.T) {
	clocks, sixteen := "clock "+numbered("x", 8, ", "), repeated("x < 1", 16, " && ")
	head := "clock x, y; int n in 0 .. 1 := 0; chan c; auto A { loc a; "
	for s, err := range map[string]api.Errno{
		clocks + ", @x0;": api.ErrName, clocks + ", @clock;": api.ErrName, clocks + ", @abcdefghijklmnopq;": api.ErrName, clocks + ", @3;": api.ErrSyntax, clocks + ",@": api.ErrEnd, clocks + ", @y 3": api.ErrLong,
		"chan " + numbered("c", 16, ", ") + ", @c0;": api.ErrName, "auto " + numbered("A", 8, " { loc a; } auto ") + " { loc a; } auto @A7": api.ErrName, "auto " + numbered("A", 8, " { loc a; } auto ") + " { loc a; } auto @B": api.ErrLong,
		"auto A { loc " + numbered("l", 64, "; loc ") + "; loc @l63": api.ErrName, "auto A { loc " + numbered("l", 64, "; loc ") + "; loc @in": api.ErrName, "auto A { loc " + numbered("l", 64, "; loc ") + "; loc @l64": api.ErrLong,
		"int " + numbered("n", 16, " in 0 .. 1 := 0; int ") + " in 0 .. 1 := 0; int @n0": api.ErrName, "int " + numbered("n", 16, " in 0 .. 1 := 0; int ") + " in 0 .. 1 := 0; int @m 3 .. 2": api.ErrLong,
		"auto A { loc a; " + repeated("edge a -> a;", 256, " ") + " @edge q -> a; }": api.ErrLong,
		head + "loc b inv " + sixteen + " && @n < 1":                                 api.ErrName, head + "loc b inv " + sixteen + " && @q": api.ErrName, head + "loc b inv " + sixteen + " && @;": api.ErrSyntax, head + "loc b inv " + sixteen + " &&@": api.ErrEnd, head + "loc b inv " + sixteen + " && @x - y": api.ErrLong, head + "loc b inv " + sixteen + " && @x;": api.ErrLong,
		head + "edge a -> a when " + sixteen + " && @q": api.ErrName, head + "edge a -> a when " + sixteen + " && @x + 3": api.ErrLong, head + "edge a -> a when " + sixteen + " && n @; ": api.ErrSyntax,
		head + "edge a -> a do " + repeated("x := 1", 16, ", ") + ", @q := 1": api.ErrName, head + "edge a -> a do " + repeated("x := 1", 16, ", ") + ", @;": api.ErrSyntax, head + "edge a -> a do " + repeated("x := 1", 16, ", ") + ",@": api.ErrEnd, head + "edge a -> a do " + repeated("x := 1", 16, ", ") + ", @n n": api.ErrLong, head + "edge a -> a do " + repeated("x := 1", 16, ", ") + ", @true := 1": api.ErrName,
		head + "edge a -> a do " + repeated("x := 1", 15, ", ") + ", x := @1048577, x := 1": api.ErrNumber,
	} {
		refuses(t, "net", s, err)
	}
	parts := repeated("true", 16, " || ") + " || "
	for s, err := range map[string]api.Errno{
		parts + "@": api.ErrEnd, parts + "@;": api.ErrSyntax, parts + "@|| true": api.ErrSyntax, parts + "@&& true": api.ErrSyntax, parts + "@)": api.ErrSyntax, parts + "@+ 1": api.ErrSyntax, parts + "@q": api.ErrName, parts + "@c": api.ErrName, parts + "@a": api.ErrName, parts + "@clock": api.ErrName, parts + "@reach": api.ErrName,
		parts + "@1048577": api.ErrLong, parts + "@A": api.ErrLong, parts + "@!": api.ErrLong, parts + "@-": api.ErrLong, parts + "@(": api.ErrLong, parts + "@x - y": api.ErrLong, parts + "@n": api.ErrLong,
		repeated("A.a", 16, " && ") + " && @q": api.ErrName, repeated("A.a", 16, " && ") + " && @A.q": api.ErrLong, repeated("A.a", 16, " && ") + " && n @.": api.ErrSyntax, repeated("A.a", 15, " && ") + " && A.@q && A.a": api.ErrName,
	} {
		refuses(t, "goal", s, err)
	}
}

// TestP11_1Nodes: as many nodes as may be, and one more: of a set, of all tests of an edge, of a part, of an expression; the place is where that test, or that sum, begins.
func TestP11_1Nodes(t *testing.T) {
	head := "clock x; int n in 0 .. 1 := 0; chan c; auto A { loc a; edge a -> a "
	deep := func(nodes int) string { return strings.Repeat("-", nodes-1) + "n" }
	few := repeated("n < 1", 16, " && ") // 63 nodes
	for _, s := range []string{
		"do n := " + deep(64) + ", n := " + deep(64) + ", n := " + repeated("n", 32, " + "), "when " + few, "when !(" + few + ")", "when " + repeated("true", 32, " && "), "when (" + repeated("true", 32, " || ") + ")", "when " + deep(62) + " < 1",
		"when " + repeated("n < 1", 16, " && x > 2 && "), "when " + repeated("n < 1", 15, " && ") + " && -n < 1 && x < 1", "when " + few + " sync c! do n := " + deep(64), "when (((((" + few + ")))))", "when n < " + strings.Repeat("(", 500) + "n" + strings.Repeat(")", 500),
	} {
		if n, err, at := Net(head + s + "; }"); err != api.OK || net.Whole(n) != api.OK {
			t.Error(s, err, at)
		}
	}
	for _, s := range []string{
		"do n := @" + deep(65), "do n := 1, n := @" + repeated("n", 33, " + "), "do n := n, x := 1, n := @(" + repeated("n", 33, " * ") + "), n := 3, q", "when " + few + " && @true", "when " + few + " && x < 1 && @true && n < 1", "when " + few + " && @n < 1 && q", "when @!(" + few + " && true)", "when @(" + few + " && n < 1)", "when x < 1 && n < 1 && @(" + few + ") sync q",
		"when @" + deep(63) + " < 1", "when @1 < " + deep(63), "when true && @(" + few + ")", "when " + repeated("true", 32, " && ") + " && @true", "when " + repeated("n < 1", 15, " && ") + " && x < 1 && @--n < 2 && x < 1", "when @" + strings.Repeat("!(", 64) + "true" + strings.Repeat(")", 64), "when true && @" + strings.Repeat("!(", 62) + "true" + strings.Repeat(")", 62),
	} {
		refuses(t, "net", head+s+"; }", api.ErrLong)
	}
	for _, s := range []string{"A.a && " + few + " || " + few, "!(" + few + ")", few + " && x < 1 || A.a"} {
		if _, err, at := Goal(sample(), s); err != api.OK {
			t.Error(s, err, at)
		}
	}
	for _, s := range []string{few + " && A.a && @true", few + " || " + few + " && @n < 1 || q", "x < 1 && @(" + few + " && true) && A.b", "@" + deep(63) + " < 1 && q", "true && @(" + few + ")"} {
		refuses(t, "goal", s, api.ErrLong)
	}
	for _, s := range []string{deep(64), few, "!(" + few + ")", repeated("n", 32, " - "), repeated("true", 32, " || "), "(" + few + ")"} {
		if l, err, at := Expr(sample(), s); err != api.OK || len(l) < 63 {
			t.Error(s, err, at)
		}
	}
	for _, s := range []string{
		"@" + deep(65), "@(" + deep(65) + ")", "@" + repeated("n", 33, " - "), "@" + repeated("n", 33, " - ") + " )", few + " && @true", few + " || @true", few + " && @n < 1 || q < 1", "@!(" + few + " && true)", "true || @(" + few + ")", repeated("true", 16, " && ") + " || " + repeated("true", 16, " && ") + " || @true",
	} {
		refuses(t, "expr", s, api.ErrLong)
	}
	// What has not been read whole is told by what can't go on in it.
	for s, err := range map[string]api.Errno{repeated("n", 99, " + ") + " + @q": api.ErrName, repeated("n", 99, " + ") + " +@": api.ErrEnd, strings.Repeat("-", 99) + "@": api.ErrEnd, strings.Repeat("-", 99) + "@1048577": api.ErrNumber} {
		refuses(t, "expr", s, err)
	}
	for s, err := range map[string]api.Errno{few + " && n < 1 + @q": api.ErrName, few + " && n @; ": api.ErrSyntax, "(" + few + " && true && @q)": api.ErrName, "(" + few + " && true@": api.ErrEnd} {
		refuses(t, "goal", s, err)
	}
}

// TestP11_1Text: texts of MaxText bytes, and above; errors of tokens ahead of all others.
func TestP11_1Text(t *testing.T) {
	padded := func(s string, bytes int) string { return s + strings.Repeat(" ", bytes-len(s)) }
	whole := map[string]string{"net": "auto A { loc a; }", "goal": "A.a", "expr": "n + 1", "guards": "x < 3"}
	for call, s := range whole {
		want := calls[call](s)
		for _, bytes := range []int{api.MaxText - 1, api.MaxText} {
			for _, text := range []string{padded(s, bytes), "#" + strings.Repeat("x", bytes-len(s)-2) + "\n" + s} {
				if got := calls[call](text); got.err != api.OK || got.at != 0 || !alike(got.value, want.value) {
					t.Error(call, bytes, got)
				}
			}
		}
		for _, bytes := range []int{api.MaxText + 1, api.MaxText + 2, 1 << 20} {
			for _, text := range []string{padded(s, bytes), padded("$", bytes), padded("", bytes), padded("q", bytes), strings.Repeat("(", bytes)} {
				if got := calls[call](text); got.err != api.ErrLong || got.at != api.MaxText || !isZero(got.value) {
					t.Error(call, bytes, got)
				}
			}
		}
		for s, err := range map[string]api.Errno{"q 3 ; @$": api.ErrChar, "q 3 ; @=": api.ErrChar, "( ( @&": api.ErrChar, "@\xff": api.ErrChar, "q ; @00": api.ErrNumber, "q ; @2147483648 $": api.ErrNumber, s + " @_": api.ErrChar} {
			refuses(t, call, s, err)
		}
		if got := calls[call](padded("", api.MaxText)); got.err != api.ErrEnd || got.at != api.MaxText {
			t.Error(call, got)
		}
	}
}

// TestP11_1Deep: texts that are nested as deep as texts may be.
func TestP11_1Deep(t *testing.T) {
	const half = api.MaxText/2 - 8
	for s, err := range map[string]api.Errno{
		strings.Repeat("(", api.MaxText) + "@": api.ErrEnd, strings.Repeat("-", api.MaxText) + "@": api.ErrEnd, strings.Repeat("!(", api.MaxText/2) + "@": api.ErrEnd, strings.Repeat("(", half) + "n" + strings.Repeat(")", half-1) + "@": api.ErrEnd,
		"@" + strings.Repeat("-", api.MaxText-1) + "n": api.ErrLong, "@" + strings.Repeat("!(", api.MaxText/3-3) + "true" + strings.Repeat(")", api.MaxText/3-3): api.ErrLong, "@" + strings.Repeat("n+", half) + "n": api.ErrLong, "@" + strings.Repeat("(n+", api.MaxText/4-1) + "n" + strings.Repeat(")", api.MaxText/4-1): api.ErrLong,
	} {
		refuses(t, "expr", s, err)
	}
	reads(t, "expr", strings.Repeat("(", half)+"n"+strings.Repeat(")", half), of(varN))
	reads(t, "expr", strings.Repeat("(", half)+"n"+strings.Repeat(")", half)+"<1", of(api.Less, varN, 1))
	reads(t, "expr", strings.Repeat("(", half)+"true"+strings.Repeat(")", half), of(api.True))
	reads(t, "goal", strings.Repeat("(", half)+"n"+strings.Repeat(")", half)+"<1", api.Goal{{Test: of(api.Less, varN, 1)}})
	refuses(t, "goal", strings.Repeat("(", half)+"n@"+strings.Repeat(")", half), api.ErrSyntax)
}

// TestP11_1NotRight: a network that net.Right does not take, ahead of all else; one that check alone does not take is taken.
func TestP11_1NotRight(t *testing.T) {
	bad := sample()
	bad.Chans[1] = "x"
	for _, n := range []api.Net{{}, bad, {Clocks: []string{"x"}}} {
		for _, s := range []string{"", "x < 1", "n", "true", "$", "q", strings.Repeat(" ", api.MaxText+1)} {
			if g, err, at := Goal(n, s); g != nil || err != api.ErrForm || at != 0 {
				t.Error(s, g, err, at)
			}
			if l, err, at := Expr(n, s); l != nil || err != api.ErrForm || at != 0 {
				t.Error(s, l, err, at)
			}
			if l, err, at := Guards(n, s); l != nil || err != api.ErrForm || at != 0 {
				t.Error(s, l, err, at)
			}
		}
	}
	n := sample()
	n.Autos[0].Locs[0].Inv = []api.Guard{{Clock: 1, Other: 2, Cmp: api.Lt, N: math.MinInt}}
	if g, err, at := Goal(n, "A.a"); err != api.OK || at != 0 || len(g) != 1 {
		t.Error(g, err, at)
	}
	none := api.Net{Autos: []api.Auto{{Name: "A", Locs: []api.Loc{{Name: "a"}}}}}
	if l, err, at := Guards(none, "x < 3"); l != nil || err != api.ErrName || at != 0 {
		t.Error(l, err, at)
	}
	if l, err, at := Expr(none, "1 + n"); l != nil || err != api.ErrName || at != 4 {
		t.Error(l, err, at)
	}
}

// TestP11_2Right: what Net tells, net.Right takes.
func TestP11_2Right(t *testing.T) {
	s := newSource(4)
	read := 0
	for range 20000 {
		text := s.changed(s.network(), s.IntN(3))
		n, err, at := Net(text)
		if err == api.OK {
			read++
		}
		if (err == api.OK) != net.Right(n) || at < 0 || at > len(text) {
			t.Fatal(text, n, err, at)
		}
		if err == api.OK {
			g, err, at := Goal(n, s.changed("A . a && x < 1 || n < 1", s.IntN(4)))
			if err == api.OK && net.WholeGoal(n, g) != api.OK {
				t.Fatal(text, g, err, at)
			}
		}
	}
	if read < 1000 {
		t.Error("few", read)
	}
}

// TestP11_3Print: what is told comes back from its text.
func TestP11_3Print(t *testing.T) {
	s := newSource(5)
	networks, goals := 0, 0
	for range 5000 {
		n, err, _ := Net(s.changed(s.network(), s.IntN(3)))
		if err != api.OK {
			continue
		}
		text, err := net.Print(n)
		if m, bad, at := Net(text); err != api.OK || bad != api.OK || at != 0 || !net.Same(n, m) {
			t.Fatal(text, m, err, bad, at)
		}
		networks++
		s.net = n
		_, said := s.goal()
		g, err, _ := Goal(n, s.changed(said, s.IntN(3)))
		if err != api.OK {
			continue
		}
		text, err = net.PrintGoal(n, g)
		if h, bad, at := Goal(n, text); err != api.OK || bad != api.OK || at != 0 || !net.SameGoal(g, h) {
			t.Fatal(text, h, err, bad, at)
		}
		goals++
	}
	if networks < 1500 || goals < 500 {
		t.Error("few", networks, goals)
	}
}

// TestP11_3Most: networks and goals with as many of all as a text has room for.
func TestP11_3Most(t *testing.T) {
	guards, test := repeated("x7 >= -1048576", 16, " && "), strings.Repeat("!(", 30)+"n15 + n0 * -n1 != n2 - 3"+strings.Repeat(")", 30)
	auto := " { loc " + numbered("l", 64, "; loc ") + "; " + repeated("edge l0 -> l63 when "+guards+" && "+test+" sync c15! do x0 := 3, "+repeated("n3 := n4 + n5", 15, ", ")+";", 4, " ") + "}"
	text := "clock " + numbered("x", 8, ", ") + "; int " + numbered("n", 16, " in -1048576 .. 1048576 := 1048576; int ") + " in -1 .. 1 := 0; chan " + numbered("c", 16, ", ") + "; auto " + numbered("A", 8, auto+" auto ") + auto
	n, err, at := Net(text)
	if err != api.OK || at != 0 {
		t.Fatal(err, at, len(text))
	}
	again, err := net.Print(n)
	if m, bad, at := Net(again); err != api.OK || bad != api.OK || !net.Same(n, m) {
		t.Error(err, bad, at)
	}
	goal := repeated(repeated("A7.l63", 16, " && ")+" && "+guards+" && "+test, 16, " || ")
	g, err, at := Goal(n, goal)
	if err != api.OK || at != 0 {
		t.Fatal(err, at)
	}
	again, err = net.PrintGoal(n, g)
	if h, bad, at := Goal(n, again); err != api.OK || bad != api.OK || !net.SameGoal(g, h) {
		t.Error(err, bad, at)
	}
}

// TestP11_4Blanks: blanks and remarks change places alone: an error stays at its token.
func TestP11_4Blanks(t *testing.T) {
	s := newSource(6)
	same := func(text string, call func(string) answer) {
		t.Helper()
		loose := s.loose(text)
		a, b := call(text), call(loose)
		tokens, _, _ := lex.All(text)
		moved, _, _ := lex.All(loose)
		at := 0
		for i, x := range tokens {
			if a.err != api.OK && x.At == a.at {
				at = moved[i].At
			}
		}
		if len(tokens) != len(moved) || a.err != b.err || b.at != at || !alike(a.value, b.value) {
			t.Fatalf("%q %q: %+v %+v %d", text, loose, a, b, at)
		}
	}
	for range 3000 {
		same(s.changed(s.network(), s.IntN(3)), calls["net"])
		n := s.net
		_, goal := s.goal()
		same(s.changed(goal, s.IntN(3)), func(text string) answer { return asAnswer(Goal(n, text)) })
		same(s.changed(s.casesText(s.truth(3)), s.IntN(3)), func(text string) answer { return asAnswer(Expr(n, text)) })
		_, texts := s.guards(3)
		same(s.changed(strings.Join(texts, " && "), s.IntN(3)), func(text string) answer { return asAnswer(Guards(n, text)) })
	}
}

// TestP11_5Token: of a text each token left out, and each put in at each place.
func TestP11_5Token(t *testing.T) {
	whole := map[string]string{
		"net":    "clock x , y ; int n in - 3 .. 4 := 0 ; chan c ; auto A { loc a urgent inv x <= 5 ; loc b ; edge a -> b when x >= 3 && ( n < 3 || true ) sync c ! do x := 0 , n := ( n + 1 ) * 2 ; }",
		"goal":   "A . a && x > 3 && ! ( n - 1 == m ) || ( n ) < 3 || true",
		"expr":   "n + ( 1 - m ) * 2 < 3 && ! ( n >= - 2 || true )",
		"guards": "x < 3 && y >= - 2 && x == 0",
	}
	seen := map[api.Errno]int{}
	for name, text := range whole {
		l := strings.Fields(text)
		try := func(l []string) {
			t.Helper()
			s := strings.Join(l, " ")
			got := calls[name](s)
			seen[got.err]++
			if got.at < 0 || got.at > len(s) || (got.err == api.OK) == isZero(got.value) || got.err == api.OK && got.at != 0 || got.err == api.ErrEnd && got.at != len(s) {
				t.Error(name, s, got)
			}
			// A place is where a token begins.
			tokens, _, _ := lex.All(s)
			if !slices.ContainsFunc(tokens, func(x lex.Token) bool { return x.At == got.at }) {
				t.Error(name, s, got)
			}
		}
		for i := range len(l) + 1 {
			if i < len(l) {
				try(slices.Delete(slices.Clone(l), i, i+1))
			}
			for _, w := range alphabet {
				try(slices.Insert(slices.Clone(l), i, w))
			}
		}
	}
	if seen[api.OK] < 50 || seen[api.ErrEnd] < 5 || seen[api.ErrSyntax] < 500 || seen[api.ErrName] < 50 {
		t.Error(seen)
	}
}

// memory is a piece of memory that a list has, its spare room included.
type memory struct{ from, to uintptr }

// memories are those of all lists of a value.
func memories(v reflect.Value) []memory {
	var l []memory
	switch v.Kind() {
	case reflect.Slice:
		if v.Cap() > 0 {
			l = append(l, memory{v.Pointer(), v.Pointer() + uintptr(v.Cap())*v.Type().Elem().Size()})
		}
		for i := range v.Len() {
			l = append(l, memories(v.Index(i))...)
		}
	case reflect.Struct:
		for i := range v.NumField() {
			l = append(l, memories(v.Field(i))...)
		}
	}
	return l
}

// shared tells whether two of the lists of some values lie in one another.
func shared(values ...any) bool {
	var l []memory
	for _, v := range values {
		l = append(l, memories(reflect.ValueOf(v))...)
	}
	slices.SortFunc(l, func(a, b memory) int { return int(a.from) - int(b.from) })
	for i := 1; i < len(l); i++ {
		if l[i].from < l[i-1].to {
			return true
		}
	}
	return false
}

// TestP3StaysAsItIs: the network that is handed in stays as it is, spare room too; what is answered is the caller's.
func TestP3StaysAsItIs(t *testing.T) {
	roomy := func() api.Net {
		n := sample()
		n.Clocks = append(n.Clocks, "s1", "s2")[:2]
		n.Vars = append(n.Vars, api.Variable{Name: "s3"})[:2]
		n.Chans = append(n.Chans, "s4", "s5")[:2]
		n.Autos = append(n.Autos, api.Auto{Name: "s6"})[:2]
		n.Autos[0].Locs = append(n.Autos[0].Locs, api.Loc{Name: "s7"})[:3]
		return n
	}
	wide := func(n api.Net) string {
		return fmt.Sprint(n, n.Clocks[:4], n.Vars[:3], n.Chans[:4], n.Autos[:3], n.Autos[0].Locs[:4])
	}
	n := roomy()
	for _, s := range []string{"A.a && x < 3 && n < 3 || B.n", "n + 1", "x < 3 && y < 3", "q", "", "$", "s1 < 3", "A.s7", "clock q;"} {
		g, _, _ := Goal(n, s)
		h, _, _ := Goal(n, s)
		e, _, _ := Expr(n, s)
		f, _, _ := Expr(n, s)
		a, _, _ := Guards(n, s)
		b, _, _ := Guards(n, s)
		if shared(n, g, h, e, f, a, b) {
			t.Error(s, "shared")
		}
	}
	if wide(n) != wide(roomy()) {
		t.Error(wide(n))
	}
	s := newSource(7)
	for range 500 {
		text := s.network()
		a, _, _ := Net(text)
		b, _, _ := Net(text)
		_, goal := s.goal()
		g, _, _ := Goal(a, goal)
		h, _, _ := Goal(a, goal)
		if shared(a, b, g, h) {
			t.Fatal(text, goal)
		}
	}
}

// TestP1NoPanic: whatever a network is, each call ends, and none panics.
func TestP1NoPanic(t *testing.T) {
	bad := sample()
	bad.Autos[0].Edges = []api.Edge{{From: math.MinInt, Chan: math.MaxInt, Guards: []api.Guard{{Clock: -1}}, Test: []api.Node{{Op: 200}}}}
	for _, n := range []api.Net{{}, bad, sample()} {
		for _, s := range []string{"", "\x00", "\xff\xfe", strings.Repeat(")", 1000), strings.Repeat("(n)<", 1000), strings.Repeat("!", 1000), "A.", "x-", "x<-", "auto", "auto A{loc a;edge a->a when(", "n)(", ")("} {
			Net(s)
			Goal(n, s)
			Expr(n, s)
			Guards(n, s)
		}
	}
}

// TestFault: what a text is given up with is an error that says where.
func TestFault(t *testing.T) {
	var err error = fault{api.ErrEnd, 7}
	if err.Error() != "error 111 at 7" {
		t.Error(err)
	}
}

// FuzzP11_1: whatever the text is.
func FuzzP11_1(f *testing.F) {
	for s := range netFaults() {
		f.Add(s)
	}
	f.Add("A.a && x > 3 || !(n < 3)")
	grammar := newGrammar(rows)
	f.Fuzz(func(t *testing.T, s string) {
		for name, call := range calls {
			got := call(s)
			if got.at < 0 || got.at > len(s) || got.err == api.OK && got.at != 0 || got.err != api.OK && !isZero(got.value) {
				t.Error(name, s, got)
			}
			tokens, bad, at := lex.All(s)
			if len(s) > 300 || bad == api.OK && len(tokens) > 60 {
				continue
			}
			if bad != api.OK {
				if got.err != bad || got.at != at {
					t.Error(name, s, got)
				}
				continue
			}
			start, n := map[string]string{"net": "network", "goal": "goal", "guards": "guards"}[name], sample()
			if name == "net" {
				n = api.Net{}
			}
			if start == "" {
				continue
			}
			err, k := newReader(grammar, n, tokens).read(start)
			if err != got.err && got.err != api.ErrLong || err != api.OK && err == got.err && got.at != tokens[k].At {
				t.Error(name, s, got, err, k)
			}
		}
	})
}
