package parse

import (
	"fmt"
	"math/rand/v2"
	"slices"
	"strings"

	"gnomon/api"
	"gnomon/lex"
)

// source makes networks, goals and expressions at random, and texts that say them, in all forms that the grammar has.
type source struct {
	*rand.Rand
	net api.Net
}

func newSource(seed uint64) *source {
	return &source{Rand: rand.New(rand.NewPCG(11, seed)), net: api.Net{}}
}

// spoken is what a text is to say of numbers and truths: a node, and its parts.
type spoken struct {
	node  api.Node
	parts []*spoken
}

func single(op api.Op, n int) *spoken { return &spoken{node: api.Node{Op: op, N: n}} }

func made(op api.Op, parts ...*spoken) *spoken { return &spoken{api.Node{Op: op}, parts} }

// nodes are those of it, itself ahead of its parts.
func (t *spoken) nodes() []api.Node {
	l := []api.Node{t.node}
	for _, p := range t.parts {
		l = slices.Concat(l, p.nodes())
	}
	return l
}

func (s *source) oneIn(n int) bool { return s.IntN(n) == 0 }

func pick[T any](s *source, l ...T) T { return l[s.IntN(len(l))] }

// number is a number's tree.
func (s *source) number(depth int) *spoken {
	if depth == 0 || s.oneIn(3) {
		if len(s.net.Vars) > 0 && s.oneIn(2) {
			return single(api.Var, s.IntN(len(s.net.Vars)))
		}
		return single(api.Num, pick(s, 0, 1, 2, 3, 10, api.MaxValue))
	}
	if s.oneIn(4) {
		return made(api.Neg, s.number(depth-1))
	}
	return made(pick(s, api.Add, api.Sub, api.Mul), s.number(depth-1), s.number(depth-1))
}

// truth is a truth's tree.
func (s *source) truth(depth int) *spoken {
	if depth == 0 || s.oneIn(6) {
		return single(api.True, 0)
	}
	switch op := api.Less + api.Op(s.IntN(7)); op {
	case api.Not:
		return made(op, s.truth(depth-1))
	case api.And, api.Or:
		return made(op, s.truth(depth-1), s.truth(depth-1))
	default:
		return made(op, s.number(depth-1), s.number(depth-1))
	}
}

// Texts of trees: each row of the grammar as a function of what it is to say, which puts brackets where it must, and elsewhere at times.

func (s *source) sumText(t *spoken) string {
	switch t.node.Op {
	case api.Add:
		return s.sumText(t.parts[0]) + " + " + s.prodText(t.parts[1])
	case api.Sub:
		return s.sumText(t.parts[0]) + " - " + s.prodText(t.parts[1])
	}
	return s.prodText(t)
}

func (s *source) prodText(t *spoken) string {
	if t.node.Op == api.Mul && !s.oneIn(8) {
		return s.prodText(t.parts[0]) + " * " + s.oneText(t.parts[1])
	}
	return s.oneText(t)
}

func (s *source) oneText(t *spoken) string {
	if s.oneIn(8) {
		return "( " + s.sumText(t) + " )"
	}
	switch t.node.Op {
	case api.Num:
		return fmt.Sprint(t.node.N)
	case api.Var:
		return s.net.Vars[t.node.N].Name
	case api.Neg:
		return "- " + s.oneText(t.parts[0])
	}
	return "( " + s.sumText(t) + " )"
}

func (s *source) casesText(t *spoken) string {
	if t.node.Op == api.Or && !s.oneIn(8) {
		return s.casesText(t.parts[0]) + " || " + s.allText(t.parts[1])
	}
	return s.allText(t)
}

func (s *source) allText(t *spoken) string {
	if t.node.Op == api.And && !s.oneIn(8) {
		return s.allText(t.parts[0]) + " && " + s.testText(t.parts[1])
	}
	return s.testText(t)
}

func (s *source) testText(t *spoken) string {
	if s.oneIn(8) {
		return "( " + s.casesText(t) + " )"
	}
	compared := func(sign, turned string) string {
		if turned != "" && s.oneIn(2) {
			return s.sumText(t.parts[1]) + " " + turned + " " + s.sumText(t.parts[0])
		}
		return s.sumText(t.parts[0]) + " " + sign + " " + s.sumText(t.parts[1])
	}
	switch t.node.Op {
	case api.True:
		return "true"
	case api.Less:
		return compared("<", ">")
	case api.AtMost:
		return compared("<=", ">=")
	case api.Equal:
		return compared("==", "")
	case api.Unlike:
		return compared("!=", "")
	case api.Not:
		return "! ( " + s.casesText(t.parts[0]) + " )"
	}
	return "( " + s.casesText(t) + " )"
}

// testsText is the tests that, joined, make a truth: an And may be two of them, or one in brackets. A True alone needs brackets.
func (s *source) testsText(t *spoken) []string {
	if t.node.Op == api.True {
		return []string{"( true )"}
	}
	var texts []string
	for t.node.Op == api.And && !s.oneIn(5) {
		texts = append(texts, s.testText(t.parts[1]))
		t = t.parts[0]
	}
	texts = append(texts, s.testText(t))
	slices.Reverse(texts)
	if len(texts) == 1 && texts[0] == "true" {
		panic("a true that says nothing")
	}
	return texts
}

// mixed puts lists into one another, the order of each kept.
func (s *source) mixed(lists ...[]string) []string {
	var out []string
	for {
		lists = slices.DeleteFunc(lists, func(l []string) bool { return len(l) == 0 })
		if len(lists) == 0 {
			return out
		}
		k := s.IntN(len(lists))
		out, lists[k] = append(out, lists[k][0]), lists[k][1:]
	}
}

func (s *source) constant() int {
	return pick(s, 0, 1, 2, 5, 17, -1, -4, api.MaxConst, -api.MaxConst)
}

func numText(n int) string {
	if n < 0 {
		return fmt.Sprint("- ", -n)
	}
	return fmt.Sprint(n)
}

func (s *source) guard() api.Guard {
	return api.Guard{Clock: 1 + s.IntN(len(s.net.Clocks)), Cmp: api.Lt + api.Cmp(s.IntN(5)), N: s.constant()}
}

func (s *source) guardText(g api.Guard) string {
	return s.net.Clocks[g.Clock-1] + " " + strings.Fields("< <= == >= >")[g.Cmp-1] + " " + numText(g.N)
}

// guards are some, and their texts.
func (s *source) guards(most int) ([]api.Guard, []string) {
	var l []api.Guard
	var texts []string
	if len(s.net.Clocks) == 0 {
		return nil, nil
	}
	for range s.IntN(most + 1) {
		l = append(l, s.guard())
		texts = append(texts, s.guardText(l[len(l)-1]))
	}
	return l, texts
}

// test is a test, or none, and the texts of its parts; a bare true may stand for none.
func (s *source) test() ([]api.Node, []string) {
	if s.oneIn(2) {
		if s.oneIn(3) {
			return nil, []string{"true"}
		}
		return nil, nil
	}
	t := s.truth(3)
	return t.nodes(), s.testsText(t)
}

func (s *source) sets() ([]api.Set, []string) {
	var l []api.Set
	var texts []string
	for range s.IntN(4) {
		if len(s.net.Clocks) > 0 && s.oneIn(2) {
			x := api.Set{Clock: 1 + s.IntN(len(s.net.Clocks)), N: s.constant()}
			l, texts = append(l, x), append(texts, s.net.Clocks[x.Clock-1]+" := "+numText(x.N))
		} else if len(s.net.Vars) > 0 {
			k, e := s.IntN(len(s.net.Vars)), s.number(3)
			l, texts = append(l, api.Set{Var: k, Expr: e.nodes()}), append(texts, s.net.Vars[k].Name+" := "+s.sumText(e))
		}
	}
	return l, texts
}

// clause is a word and what stands behind it; nothing, if that is none.
func clause(word, between string, l []string) string {
	if len(l) == 0 {
		return ""
	}
	return " " + word + " " + strings.Join(l, between)
}

func (s *source) loc(name string) (api.Loc, string) {
	l := api.Loc{Name: name, Kind: api.LocKind(s.IntN(3))}
	guards, texts := s.guards(2)
	l.Inv = guards
	return l, "loc " + name + []string{"", " urgent", " committed"}[l.Kind] + clause("inv", " && ", texts) + " ;"
}

func (s *source) edge(a api.Auto) (api.Edge, string) {
	e := api.Edge{From: s.IntN(len(a.Locs)), To: s.IntN(len(a.Locs)), Chan: s.IntN(len(s.net.Chans) + 1)}
	e.Send = e.Chan > 0 && s.oneIn(2)
	var guards, tests, sets []string
	e.Guards, guards = s.guards(3)
	e.Test, tests = s.test()
	e.Sets, sets = s.sets()
	text := "edge " + a.Locs[e.From].Name + " -> " + a.Locs[e.To].Name + clause("when", " && ", s.mixed(guards, tests))
	if e.Chan > 0 {
		text += " sync " + s.net.Chans[e.Chan-1] + map[bool]string{true: " !", false: " ?"}[e.Send]
	}
	return e, text + clause("do", " , ", sets) + " ;"
}

func (s *source) auto(name string) (api.Auto, string) {
	a := api.Auto{Name: name}
	texts := []string{"auto", name, "{"}
	more := 1 + s.IntN(6)
	for k := range more {
		if k == 0 || s.oneIn(3) {
			// Locations may be called as other things are.
			l, text := s.loc([]string{"a", "x", "A", "n", "b", "c"}[len(a.Locs)])
			a.Locs, texts = append(a.Locs, l), append(texts, text)
		} else {
			e, text := s.edge(a)
			a.Edges, texts = append(a.Edges, e), append(texts, text)
		}
	}
	return a, strings.Join(append(texts, "}"), " ")
}

// names declares some names, and is the text of it.
func (s *source) names(word string, l *[]string, names []string) string {
	some := names[:1+s.IntN(len(names))]
	*l = append(*l, some...)
	return word + " " + strings.Join(some, " , ") + " ;"
}

// network makes one that a text says: its declarations in any order, as far as what they name is ahead of them. It is kept as that of which goals and expressions speak.
func (s *source) network() string {
	s.net = api.Net{}
	clocks, chans, vars := []string{"x", "y", "z"}, []string{"c", "d"}, []string{"n", "m", "k"}
	autos := []string{"A", "B", "C"}
	var texts []string
	for steps := 2 + s.IntN(7); steps > 0 || len(s.net.Autos) == 0; steps-- {
		switch k := s.IntN(4); {
		case k == 0 && len(clocks) > 0:
			texts = append(texts, s.names("clock", &s.net.Clocks, clocks))
			clocks = clocks[len(strings.Split(texts[len(texts)-1], ",")):]
		case k == 1 && len(chans) > 0:
			texts = append(texts, s.names("chan", &s.net.Chans, chans))
			chans = chans[len(strings.Split(texts[len(texts)-1], ",")):]
		case k == 2 && len(vars) > 0:
			lo := pick(s, -api.MaxValue, -3, 0, 2)
			hi := lo + pick(s, 0, 1, 5, api.MaxValue-max(lo, 0))
			v := api.Variable{Name: vars[0], Lo: lo, Hi: hi, Init: lo + s.IntN(hi-lo+1)}
			vars, s.net.Vars = vars[1:], append(s.net.Vars, v)
			texts = append(texts, fmt.Sprintf("int %s in %s .. %s := %s ;", v.Name, numText(v.Lo), numText(v.Hi), numText(v.Init)))
		case len(autos) > 0:
			a, text := s.auto(autos[0])
			autos, s.net.Autos = autos[1:], append(s.net.Autos, a)
			texts = append(texts, text)
		}
	}
	return strings.Join(texts, " ")
}

// goal makes a goal of the network, and its text.
func (s *source) goal() (api.Goal, string) {
	var g api.Goal
	var texts []string
	for range 1 + s.IntN(3) {
		var p api.Part
		var locs, guards, tests []string
		for range s.IntN(3) {
			k := s.IntN(len(s.net.Autos))
			at := api.At{Auto: k, Loc: s.IntN(len(s.net.Autos[k].Locs))}
			p.Locs, locs = append(p.Locs, at), append(locs, s.net.Autos[k].Name+" . "+s.net.Autos[k].Locs[at.Loc].Name)
		}
		p.Guards, guards = s.guards(3)
		p.Test, tests = s.test()
		all := s.mixed(locs, guards, tests)
		if len(all) == 0 {
			all = []string{"true"}
		}
		g, texts = append(g, p), append(texts, strings.Join(all, " && "))
	}
	return g, strings.Join(texts, " || ")
}

// loose puts other blanks and remarks between the words of a text, none where none is needed.
func (s *source) loose(text string) string {
	var b strings.Builder
	tokens, _, _ := lex.All(text)
	last := lex.Token{Kind: lex.Sign}
	for _, t := range tokens {
		needed := last.Kind != lex.Sign && (t.Kind == lex.Word || t.Kind == lex.Number)
		// Two signs may be one, if nothing stands between.
		needed = needed || last.Kind == lex.Sign && t.Kind == lex.Sign
		if needed || s.oneIn(3) {
			b.WriteString(pick(s, " ", "  ", "\n", "\t", "\r\n", "# x { ( \n", " #\n\n", "#;# \xff\n "))
		}
		b.WriteString(t.Text)
		last = t
	}
	return b.String() + pick(s, "", " ", "\n", "# the end", "#")
}

// alphabet is tokens of all kinds.
var alphabet = strings.Fields("clock int chan auto loc edge in inv when sync do urgent committed true reach never x y z n m k c d A B C a b q abcdefghijklmnopq 0 1 2 3 1048576 1048577 , ; . .. { } ( ) := -> && || ! != < <= == >= > ? + - *")

// changed leaves out, puts in, or puts in the place of another one, some tokens.
func (s *source) changed(text string, times int) string {
	tokens, _, _ := lex.All(text)
	var l []string
	for _, t := range tokens[:len(tokens)-1] {
		l = append(l, t.Text)
	}
	for range times {
		k := s.IntN(len(l) + 1)
		switch s.IntN(5) {
		case 0:
			l = slices.Insert(l, k, pick(s, alphabet...))
		case 3:
			l = slices.Insert(l, k, "-", pick(s, "x", "y", "n", "A", "3"))
		case 1:
			l = slices.Insert(l, k, l[min(s.IntN(len(l)+1), max(len(l)-1, 0)):][:min(len(l), 1)]...)
		case 2:
			l = slices.Delete(l, min(k, max(len(l)-1, 0)), min(k+1, len(l)))
		default:
			if k < len(l) {
				l[k] = pick(s, alphabet...)
			}
		}
	}
	return strings.Join(l, " ")
}
