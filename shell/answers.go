package shell

import (
	"strconv"
	"strings"

	"gnomon/api"
)

// Words of answers.
const (
	okWord      = "ok"
	checkWord   = "check"
	maxWord     = "max"
	movesWord   = "moves"
	yesWord     = "yes"
	noWord      = "no"
	unknownWord = "unknown"
	noneWord    = "none"
	wordWord    = "word"
	errorWord   = "error"
	longWord    = "long"
)

// line is a line of an answer.
func line(words ...string) string { return strings.Join(words, blank) + lineFeed }

// failed is the answer of an error that a call has told, and of its place, if it tells one.
func failed(err api.Errno, place ...int) string {
	return line(append([]string{errorWord, errnoText(err)}, texts(place...)...)...)
}

func errnoText(err api.Errno) string { return strconv.Itoa(int(err)) }

// texts are numbers in decimal.
func texts(numbers ...int) []string {
	var l []string
	for _, n := range numbers {
		l = append(l, strconv.Itoa(n))
	}
	return l
}

func yesOrNo(yes bool) string {
	if yes {
		return yesWord
	}
	return noWord
}
