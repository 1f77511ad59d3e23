package parse

import (
	"slices"
	"strconv"

	"gnomon/api"
	"gnomon/lex"
)

// fault is what a text is given up with: an error, and its place.
type fault struct {
	err api.Errno
	at  int
}

func (f fault) Error() string {
	return "error " + strconv.Itoa(int(f.err)) + " at " + strconv.Itoa(f.at)
}

// cursor goes through the tokens of a text; the End is the last one, and is never passed.
type cursor struct {
	tokens []lex.Token
	mates  []int
	here   int
}

// mates are, for each ( among tokens, the number of the ) that belongs to it; 0, if there is none. They are looked for once for all, as brackets may be nested thousands deep.
func mates(l []lex.Token) []int {
	out := make([]int, len(l))
	var open []int
	for i, t := range l {
		last := len(open) - 1
		switch {
		case t.Text == "(":
			open = append(open, i)
		case t.Text == ")" && last >= 0:
			out[open[last]] = i
			open = open[:last]
		}
	}
	return out
}

func (c *cursor) token() lex.Token { return c.tokens[c.here] }

// is tells whether the token here is one of these words and signs.
func (c *cursor) is(texts ...string) bool { return slices.Contains(texts, c.token().Text) }

// accept passes a word or sign, if it is here.
func (c *cursor) accept(text string) bool {
	yes := c.is(text)
	if yes {
		c.here++
	}
	return yes
}

// expect passes the word or sign that must be here, one of these.
func (c *cursor) expect(texts ...string) lex.Token {
	t := c.token()
	if !c.is(texts...) {
		panic(c.unfit())
	}
	c.here++
	return t
}

// take passes the token that must be here, of a kind.
func (c *cursor) take(k lex.Kind) lex.Token {
	t := c.token()
	if t.Kind != k {
		panic(c.unfit())
	}
	c.here++
	return t
}

func (c *cursor) atEnd() bool { return c.token().Kind == lex.End }

func (c *cursor) end() {
	if !c.atEnd() {
		panic(c.unfit())
	}
}

// unfit is the fault of a token that may not be here, whatever it says.
func (c *cursor) unfit() fault {
	if c.atEnd() {
		return fault{api.ErrEnd, c.token().At}
	}
	return fault{api.ErrSyntax, c.token().At}
}

// opensSum tells whether the ( here, at the beginning of a test, is of a sum.
func (c *cursor) opensSum() bool {
	mate := c.mates[c.here]
	return mate > 0 && goesOn(c.tokens[mate+1].Text)
}

// number passes a Number that may not be above another one.
func (c *cursor) number(most int) lex.Token {
	t := c.take(lex.Number)
	if t.N > most {
		panic(fault{api.ErrNumber, t.At})
	}
	return t
}

// num passes a number with a minus or without; and tells the token of its digits.
func (c *cursor) num(most int) (int, lex.Token) {
	below := c.accept("-")
	t := c.number(most)
	if below {
		return -t.N, t
	}
	return t.N, t
}
