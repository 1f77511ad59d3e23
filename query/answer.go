package query

import (
	"strings"

	"gnomon/api"
	"gnomon/search"
	"gnomon/times"
	"gnomon/trace"
)

// Words of a question's text.
const (
	reach = "reach"
	never = "never"
	blank = " "
)

// cutWord is the first word of a question's text, and what is behind the blank; false: it begins with none.
func cutWord(s string) (string, string, bool) {
	word, goal, both := strings.Cut(s, blank)
	return word, goal, both && (word == reach || word == never)
}

func (q Question) word() string {
	if q.Never {
		return never
	}
	return reach
}

// holds tells whether a question holds by a verdict.
func (q Question) holds(v api.Verdict) bool {
	if q.Never {
		return v == api.Unreachable
	}
	return v == api.Reachable
}

// begin is a search that goes this way.
func (w Way) begin(n api.Net, g api.Goal) (*search.Search, api.Errno) {
	return search.New(n, g, w.Plan, w.Last)
}

// most is how many pops it may take; without a number as many as end each search.
func (w Way) most() int {
	if w.Fuel < 1 {
		return api.MaxZones + 1
	}
	return w.Fuel
}

// answer is what is told of a question, with the way inside that it is asked by.
type answer struct {
	Way
	Told
}

func answerOf(n api.Net, q Question, w Way) answer {
	a := answer{Way: w}
	s, err := a.begin(n, q.Goal)
	if err != api.OK {
		a.Errno = err
		return a
	}
	a.Verdict, a.Errno = s.Go(a.most())
	a.Holds = q.holds(a.Verdict)
	a.Stored, a.Pops = len(s.Nodes()), s.Pops()
	if a.Verdict == api.Reachable {
		a.Part, a.Run = found(n, q.Goal, s)
	}
	return a
}

// found is the part that a search has found its goal with, and the run that leads there.
func found(n api.Net, g api.Goal, s *search.Search) (int, api.Run) {
	node, part := s.Found()
	// No errors: the nodes are those of a search. (A plan whose numbers are too small may have found what no run reaches; then there is none to tell.)
	way, _ := trace.Of(s.Nodes(), node)
	r, _ := times.Run(n, way, g[part])
	return part, r
}
