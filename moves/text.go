package moves

import (
	"strconv"
	"strings"

	"gnomon/api"
	"gnomon/decimal"
	"gnomon/net"
)

// Signs of moves' texts.
const (
	dot     = "."
	blank   = " "
	between = ", "
)

// textOf is the text of a move with these halves.
func textOf(n api.Net, l ...half) string {
	var texts []string
	for _, h := range l {
		texts = append(texts, n.Autos[h.auto].Name+dot+strconv.Itoa(h.number))
	}
	return strings.Join(texts, blank)
}

// read is the move with a text; false: there is none.
func read(n api.Net, text string) (api.Move, bool) {
	left, right, both := strings.Cut(text, blank)
	h, ok := readHalf(n, left)
	if !ok {
		return api.Move{}, false
	}
	m := api.Move{Auto: h.auto, Edge: h.number}
	if both {
		o, ok := readHalf(n, right)
		if !ok {
			return api.Move{}, false
		}
		m.With, m.Take = o.auto+1, o.number
	}
	return m, len(halvesOf(n, m)) > 0
}

// readHalf is the edge that a text names.
func readHalf(n api.Net, text string) (half, bool) {
	name, digits, _ := strings.Cut(text, dot)
	kind, auto := net.Find(n, name)
	number, ok := decimal.Read(digits)
	if kind != net.Automaton || !ok {
		return half{}, false
	}
	return halfAt(n, auto, int(number))
}
