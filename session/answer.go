package session

import (
	"gnomon/api"
	"gnomon/parse"
	"gnomon/plans"
	"gnomon/run"
	"gnomon/search"
	"gnomon/times"
	"gnomon/trace"
)

// network is one that can be searched.
type network struct {
	api.Net
}

// session is a network, and what its questions have told so far.
type session struct {
	network
	answers []Answer
}

func (s *session) ask(a Ask) { s.answers = append(s.answers, s.answer(a)) }

// answer is what a question tells.
func (n network) answer(a Ask) Answer {
	g, err, at := parse.Goal(n.Net, a.Goal)
	if err != api.OK {
		return Answer{Errno: err, At: at}
	}
	p, err := plans.Of(a.Plan, n.Net, g)
	if err != api.OK {
		return Answer{Errno: err}
	}
	s, err := search.New(n.Net, g, p, a.Last)
	if err != api.OK {
		return Answer{Errno: err}
	}
	var told Answer
	told.Verdict, told.Errno = s.Go(a.Fuel)
	told.Stored = len(s.Nodes())
	if told.Verdict == api.Reachable {
		told.Run = n.wayOf(g, s)
	}
	return told
}

// wayOf is the text of the run to the node that a search has found. No errors: the nodes are those of a search, and a run leads to each.
func (n network) wayOf(g api.Goal, s *search.Search) string {
	node, part := s.Found()
	way, _ := trace.Of(s.Nodes(), node)
	r, _ := times.Run(n.Net, way, g[part])
	text, _ := run.Print(n.Net, r)
	return text
}
