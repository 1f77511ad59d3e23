package run

import (
	"iter"
	"strings"

	"gnomon/api"
	"gnomon/rat"
)

// Signs of a run's text.
const (
	blank = " "
	feed  = "\n"
	end   = "end"
)

// lineOf is the line of a delay and what follows it.
func lineOf(d api.Rat, words string) string { return rat.Print(d) + blank + words + feed }

// lines yields the lines of a text, line feeds too, with their numbers, from 1 on.
func lines(s string) iter.Seq2[int, string] {
	return func(yield func(int, string) bool) {
		number := 0
		for line := range strings.Lines(s) {
			number++
			if !yield(number, line) {
				return
			}
		}
	}
}

// readLine is the delay of a line, and what follows it; false: it begins with none, or no line feed ends it.
func readLine(line string) (api.Rat, string, bool) {
	text, ended := strings.CutSuffix(line, feed)
	number, words, both := strings.Cut(text, blank)
	d, err := rat.Parse(number)
	return d, words, ended && both && err == api.OK && !isNoDelay(d)
}
