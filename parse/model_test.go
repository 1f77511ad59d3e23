package parse

import (
	"slices"
	"strings"

	"gnomon/api"
	"gnomon/lex"
)

// rows is the document's grammar. Names that are to be declared are new..; here is a location of the automaton that is read, place one of that which is named; "(cases" and "(sum" are a ( at the beginning of a test.
const rows = `
network: {plain} auto {plain | auto} End
plain: "clock" newclock {"," newclock} ";" | "chan" newchannel {"," newchannel} ";" | "int" newvariable "in" num ".." num ":=" num ";"
auto: "auto" newautomaton "{" {edge} loc {loc | edge} "}"
num: ["-"] Number
loc: "loc" newloc ["urgent" | "committed"] ["inv" guard {"&&" guard}] ";"
edge: "edge" here "->" here ["when" cond {"&&" cond}] ["sync" channel ("!" | "?")] ["do" set {"," set}] ";"
guard: clock ["-" clock] cmp num
cmp: "<" | "<=" | "==" | ">=" | ">"
cond: guard | test
set: clock ":=" num | variable ":=" sum
test: "!" "(" cases ")" | "(cases" cases ")" | first rel sum | "true"
rel: cmp | "!="
cases: test {"&&" test} {"||" test {"&&" test}}
first: firstprod {("+" | "-") prod}
firstprod: firstone {"*" one}
firstone: Number | variable | "-" one | "(sum" sum ")"
sum: prod {("+" | "-") prod}
prod: one {"*" one}
one: Number | variable | "-" one | "(" sum ")"
goal: part {"||" part} End
part: atom {"&&" atom}
atom: automaton "." place | guard | test
number: sum End
truth: cases End
guards: guard {"&&" guard} End
`

// rule is one way in which a thing may be made of others.
type rule struct {
	of    string
	parts []string
}

// grammar is rules without brackets and braces.
type grammar struct {
	rules  []rule
	byName map[string][]int
	empty  map[string]bool
}

// newGrammar makes rules of rows: each bracket becomes a thing of its own.
func newGrammar(rows string) *grammar {
	g := &grammar{byName: map[string][]int{}, empty: map[string]bool{}}
	for _, line := range strings.Split(strings.TrimSpace(rows), "\n") {
		name, row, _ := strings.Cut(line, ":")
		g.row(name, words(row))
	}
	for changed := true; changed; {
		changed = false
		for _, r := range g.rules {
			if !g.empty[r.of] && !slices.ContainsFunc(r.parts, func(p string) bool { return !g.empty[p] }) {
				g.empty[r.of], changed = true, true
			}
		}
	}
	return g
}

// words cuts a row into its quoted texts, its names and its brackets.
func words(row string) []string {
	var l []string
	for row = strings.TrimSpace(row); row != ""; row = strings.TrimSpace(row) {
		n := 1
		switch {
		case row[0] == '"':
			n = 2 + strings.IndexByte(row[1:], '"')
		case !strings.ContainsRune("{}[]()|", rune(row[0])):
			n = len(row) - len(strings.TrimLeft(row, "abcdefghijklmnopqrstuvwxyzEN"))
		}
		l, row = append(l, row[:n]), row[n:]
	}
	return l
}

func (g *grammar) add(of string, parts ...string) {
	g.byName[of] = append(g.byName[of], len(g.rules))
	g.rules = append(g.rules, rule{of, parts})
}

// row adds the rules of a row, up to a bracket that ends it, and is what stands behind.
func (g *grammar) row(of string, l []string) []string {
	parts := []string{}
	for len(l) > 0 {
		w := l[0]
		l = l[1:]
		switch w {
		case "|":
			g.add(of, parts...)
			parts = []string{}
		case "}", "]", ")":
			g.add(of, parts...)
			return l
		case "{", "[", "(":
			inner := of + w + string(rune('a'+len(g.rules)/26)) + string(rune('a'+len(g.rules)%26)) + string(rune('a'+len(parts)))
			g.byName[inner] = nil
			l = g.row(inner, l)
			if w == "{" {
				g.add(inner+"*", inner, inner+"*")
				inner += "*"
			}
			if w != "(" {
				g.add(inner)
			}
			parts = append(parts, inner)
		default:
			parts = append(parts, w)
		}
	}
	g.add(of, parts...)
	return nil
}

// item is how far a rule has been read, and from where on.
type item struct{ rule, dot, from int }

// reader tells by the grammar alone how far a text goes (Earley, 1970): it goes all ways at once, and looks at no token ahead of its place but for brackets.
type reader struct {
	*grammar
	tokens []lex.Token
	kinds  map[string]string
	locs   map[string][]string
	auto   string
	sets   []map[item]bool
	lists  [][]item
}

func newReader(g *grammar, n api.Net, tokens []lex.Token) *reader {
	r := &reader{grammar: g, tokens: tokens, kinds: map[string]string{}, locs: map[string][]string{}}
	for _, name := range n.Clocks {
		r.kinds[name] = "clock"
	}
	for _, v := range n.Vars {
		r.kinds[v.Name] = "variable"
	}
	for _, name := range n.Chans {
		r.kinds[name] = "channel"
	}
	for _, a := range n.Autos {
		r.kinds[a.Name] = "automaton"
		for _, l := range a.Locs {
			r.locs[a.Name] = append(r.locs[a.Name], l.Name)
		}
	}
	return r
}

// next is what must come next in a rule that has been read so far; nothing, if it is read.
func (r *reader) next(it item) string {
	if l := r.rules[it.rule].parts; it.dot < len(l) {
		return l[it.dot]
	}
	return ""
}

func (r *reader) put(at int, it item) {
	for len(r.sets) <= at {
		r.sets, r.lists = append(r.sets, map[item]bool{}), append(r.lists, nil)
	}
	if !r.sets[at][it] {
		r.sets[at][it] = true
		r.lists[at] = append(r.lists[at], it)
	}
}

// fill adds all that follows from what has been read up to a token.
func (r *reader) fill(at int) {
	for i := 0; i < len(r.lists[at]); i++ {
		it := r.lists[at][i]
		next := r.next(it)
		if next == "" {
			of := r.rules[it.rule].of
			for _, up := range slices.Clone(r.lists[it.from]) {
				if r.next(up) == of {
					r.put(at, item{up.rule, up.dot + 1, up.from})
				}
			}
			continue
		}
		for _, k := range r.byName[next] {
			r.put(at, item{k, 0, at})
		}
		if r.empty[next] {
			r.put(at, item{it.rule, it.dot + 1, it.from})
		}
	}
}

// ofSum tells whether the ( at a place has its ) in the text, and a sum goes on behind it.
func (r *reader) ofSum(at int) bool {
	depth := 0
	for i := at; i < len(r.tokens); i++ {
		switch r.tokens[i].Text {
		case "(":
			depth++
		case ")":
			depth--
		}
		if depth == 0 {
			return slices.Contains(strings.Fields("< <= == >= > != + - *"), r.tokens[i+1].Text)
		}
	}
	return false
}

// matches tells whether the token at a place may be what must come next.
func (r *reader) matches(at int, want string) bool {
	t := r.tokens[at]
	switch {
	case want == `"(cases"`, want == `"(sum"`:
		return t.Text == "(" && r.ofSum(at) == (want == `"(sum"`)
	case want[0] == '"':
		return want == `"`+t.Text+`"`
	case want == "Number":
		return t.Kind == lex.Number
	case want == "End":
		return t.Kind == lex.End
	case t.Kind != lex.Word:
		return false
	case want == "newloc":
		return lex.IsName(t.Text) && !slices.Contains(r.locs[r.auto], t.Text)
	case strings.HasPrefix(want, "new"):
		return lex.IsName(t.Text) && r.kinds[t.Text] == ""
	case want == "here":
		return slices.Contains(r.locs[r.auto], t.Text)
	case want == "place":
		return slices.Contains(r.locs[r.tokens[at-2].Text], t.Text)
	}
	return r.kinds[t.Text] == want
}

// declare notes what the name at a place is by now.
func (r *reader) declare(name, as string) {
	switch {
	case as == "newloc":
		r.locs[r.auto] = append(r.locs[r.auto], name)
	case strings.HasPrefix(as, "new"):
		r.kinds[name] = as[3:]
	}
	if as == "newautomaton" {
		r.auto = name
	}
}

// read tells the error of the first token that can't go on so, and that token's number.
func (r *reader) read(start string) (api.Errno, int) {
	for _, k := range r.byName[start] {
		r.put(0, item{k, 0, 0})
	}
	for at, t := range r.tokens {
		r.fill(at)
		as := ""
		for _, it := range r.lists[at] {
			if want := r.next(it); want != "" && r.byName[want] == nil && r.matches(at, want) {
				as = want
				r.put(at+1, item{it.rule, it.dot + 1, it.from})
			}
		}
		if as == "" {
			return r.wrong(at), at
		}
		r.declare(t.Text, as)
		if err := r.refused(at); err != api.OK {
			return err, at
		}
	}
	return api.OK, 0
}

// wrong is the error of a token that nothing takes.
func (r *reader) wrong(at int) api.Errno {
	if r.tokens[at].Kind == lex.End {
		return api.ErrEnd
	}
	for _, it := range r.lists[at] {
		want := r.next(it)
		isName := want != "" && want[0] != '"' && want != "Number" && want != "End" && r.byName[want] == nil
		if isName && r.tokens[at].Kind == lex.Word {
			return api.ErrName
		}
	}
	return api.ErrSyntax
}

// refused is the error of a token that the grammar takes, but the rules behind it do not.
func (r *reader) refused(at int) api.Errno {
	if t := r.tokens[at]; t.Kind == lex.Number && t.N > api.MaxConst {
		return api.ErrNumber
	} else if t.Kind == lex.Number {
		return r.refusedVar(at)
	}
	for _, it := range r.lists[at+1] {
		if l := r.rules[it.rule].parts; it.dot == 1 && slices.Equal(l, []string{`"-"`, "clock"}) {
			if r.matches(at+1, "clock") {
				return api.ErrDiagonal
			}
			return api.ErrSyntax
		}
	}
	return api.OK
}

// value is the number that ends at a place, and where it begins.
func (r *reader) value(at int) (int, int) {
	if r.tokens[at-1].Text == "-" {
		return -r.tokens[at].N, at - 1
	}
	return r.tokens[at].N, at
}

func (r *reader) refusedVar(at int) api.Errno {
	if at < 4 {
		return api.OK
	}
	n, from := r.value(at)
	wrong := false
	switch ahead := r.tokens[from-1].Text; {
	case ahead == "..":
		lo, _ := r.value(from - 2)
		wrong = n < lo
	case ahead == ":=" && r.tokens[from-2].Kind == lex.Number:
		hi, k := r.value(from - 2)
		lo, _ := r.value(k - 2)
		wrong = n < lo || n > hi
	}
	if wrong {
		return api.ErrVar
	}
	return api.OK
}
