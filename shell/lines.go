package shell

import (
	"iter"
	"strings"
)

// Signs of a script.
const (
	lineFeed = "\n"
	blank    = " "
	remark   = "#"
)

// lines goes through the lines of a script, without their line feeds.
func lines(script string) iter.Seq[string] {
	return func(yield func(string) bool) {
		for rest := script; rest != ""; {
			var l string
			l, rest, _ = strings.Cut(rest, lineFeed)
			if !yield(l) {
				return
			}
		}
	}
}

// cursor goes through the words of a line.
type cursor struct {
	rest string // all behind the blank that ends the word that was read last
}

// word reads the next word; it is empty, if there is none.
func (c *cursor) word() string {
	var word string
	word, c.rest, _ = strings.Cut(strings.TrimLeft(c.rest, blank), blank)
	return word
}

// hasWord tells whether there is a word that is not read.
func (c *cursor) hasWord() bool { return strings.Trim(c.rest, blank) != "" }
