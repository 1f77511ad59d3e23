package net

import (
	"strconv"
	"strings"

	"gnomon/api"
	"gnomon/expr"
)

// writer gathers a text.
type writer struct {
	strings.Builder
}

func (w *writer) put(pieces ...string) {
	for _, p := range pieces {
		w.WriteString(p)
	}
}

// join writes what stands between things ahead of each but the first one, of which so many are ahead.
func (w *writer) join(ahead int, between string) {
	if ahead > 0 {
		w.put(between)
	}
}

func (w *writer) isLong() bool { return w.Len() > api.MaxText }

// termWriter writes guards, tests and sets by the names of a whole network.
type termWriter struct {
	writer
	net api.Net
}

func (w *termWriter) guard(g api.Guard) {
	w.put(w.net.Clocks[g.Clock-1])
	if g.Other != 0 {
		w.put(" - ", w.net.Clocks[g.Other-1])
	}
	w.put(" ", sign(g.Cmp), " ", strconv.Itoa(g.N))
}

func sign(c api.Cmp) string {
	return [...]string{api.Lt: "<", api.Le: "<=", api.Eq: "==", api.Ge: ">=", api.Gt: ">"}[c]
}

// test writes a test such as it stands among guards: without brackets an Or would take them in, and a True alone would be nothing.
func (w *termWriter) test(l []api.Node) {
	if l[0].Op == api.Or || l[0].Op == api.True {
		w.put("(", w.value(l), ")")
		return
	}
	w.put(w.value(l))
}

func (w *termWriter) value(l []api.Node) string {
	text, _ := expr.Print(l, Names(w.net))
	return text
}

// conds writes guards, and a test, if there is one, behind so many others.
func (w *termWriter) conds(ahead int, l []api.Guard, test []api.Node) {
	for i, g := range l {
		w.join(ahead+i, " && ")
		w.guard(g)
	}
	if len(test) > 0 {
		w.join(ahead+len(l), " && ")
		w.test(test)
	}
}

func (w *termWriter) set(s api.Set) {
	if s.Clock == 0 {
		w.put(w.net.Vars[s.Var].Name, " := ", w.value(s.Expr))
		return
	}
	w.put(w.net.Clocks[s.Clock-1], " := ", strconv.Itoa(s.N))
}

// netWriter writes a network.
type netWriter struct {
	termWriter
}

func (w *netWriter) network() {
	w.names("clock ", w.net.Clocks)
	for _, v := range w.net.Vars {
		w.put("int ", v.Name, " in ", strconv.Itoa(v.Lo), " .. ", strconv.Itoa(v.Hi), " := ", strconv.Itoa(v.Init), ";\n")
	}
	w.names("chan ", w.net.Chans)
	for _, a := range w.net.Autos {
		w.automaton(a)
	}
}

func (w *netWriter) names(word string, l []string) {
	if len(l) > 0 {
		w.put(word, strings.Join(l, ", "), ";\n")
	}
}

func (w *netWriter) automaton(a api.Auto) {
	w.put("auto ", a.Name, " {\n")
	for _, l := range a.Locs {
		w.location(l)
	}
	for _, e := range a.Edges {
		w.edge(a, e)
	}
	w.put("}\n")
}

func (w *netWriter) location(l api.Loc) {
	w.put("  loc ", l.Name)
	switch l.Kind {
	case api.Urgent:
		w.put(" urgent")
	case api.Committed:
		w.put(" committed")
	}
	if len(l.Inv) > 0 {
		w.put(" inv ")
		w.conds(0, l.Inv, nil)
	}
	w.put(";\n")
}

func (w *netWriter) edge(a api.Auto, e api.Edge) {
	// A text that is too long already isn't asked for: the rest of it may be a thousand times as long.
	if w.isLong() {
		return
	}
	w.put("  edge ", a.Locs[e.From].Name, " -> ", a.Locs[e.To].Name)
	if len(e.Guards)+len(e.Test) > 0 {
		w.put(" when ")
		w.conds(0, e.Guards, e.Test)
	}
	if e.Chan > 0 {
		w.put(" sync ", w.net.Chans[e.Chan-1], way(e.Send))
	}
	if len(e.Sets) > 0 {
		w.put(" do ")
	}
	for i, s := range e.Sets {
		w.join(i, ", ")
		w.set(s)
	}
	w.put(";\n")
}

func way(send bool) string {
	if send {
		return "!"
	}
	return "?"
}

// goalWriter writes goals of a network.
type goalWriter struct {
	termWriter
}

func (w *goalWriter) goal(g api.Goal) {
	for i, p := range g {
		w.join(i, " || ")
		w.part(p)
	}
}

func (w *goalWriter) part(p api.Part) {
	if len(p.Locs)+len(p.Guards)+len(p.Test) == 0 {
		w.put("true")
	}
	for i, at := range p.Locs {
		a := w.net.Autos[at.Auto]
		w.join(i, " && ")
		w.put(a.Name, ".", a.Locs[at.Loc].Name)
	}
	w.conds(len(p.Locs), p.Guards, p.Test)
}
