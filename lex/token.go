package lex

import (
	"iter"
	"strings"

	"gnomon/api"
)

// greatest is the greatest number that a token may be.
const greatest = 1<<31 - 1

// tokens yields the tokens of a text, the End the last one; or, the last one, an error with a token that has its place alone.
func tokens(s string) iter.Seq2[Token, api.Errno] {
	return func(yield func(Token, api.Errno) bool) {
		for at, more := 0, true; more; {
			t, behind, err := Next(s, at)
			if err != api.OK {
				yield(Token{At: behind}, err)
				return
			}
			at = behind
			more = yield(t, api.OK) && t.Kind != End
		}
	}
}

// skipped is how many bytes of blanks and remarks stand at the beginning.
func skipped(s string) int {
	at := 0
	for at < len(s) {
		switch s[at] {
		case ' ', '\t', '\r', '\n':
			at++
		case '#':
			at += span(s[at:], func(c byte) bool { return c != '\n' })
		default:
			return at
		}
	}
	return at
}

// first is the token that a text begins with, as if it stood at 0.
func first(s string) (Token, api.Errno) {
	if s == "" {
		return Token{}, api.OK
	}
	switch c := s[0]; {
	case isLetter(c):
		return Token{Kind: Word, Text: s[:span(s, inWord)]}, api.OK
	case isDigit(c):
		return number(s[:span(s, isDigit)])
	case strings.IndexByte(".-!<>", c) >= 0:
		if isPair(s) {
			return Token{Kind: Sign, Text: s[:2]}, api.OK
		}
		// Each of these is a sign alone, too.
		fallthrough
	case strings.IndexByte(",;{}()?+*", c) >= 0:
		return Token{Kind: Sign, Text: s[:1]}, api.OK
	case strings.IndexByte(":=&|", c) >= 0 && isPair(s):
		return Token{Kind: Sign, Text: s[:2]}, api.OK
	}
	return Token{}, api.ErrChar
}

// isPair tells whether the first two bytes are a sign, if the first one begins one of two bytes.
func isPair(s string) bool {
	return len(s) > 1 && s[1] == mate(s[0])
}

// mate is the byte that makes a sign of two bytes out of its first one.
func mate(c byte) byte {
	switch c {
	case '.', '&', '|':
		return c
	case '-':
		return '>'
	}
	return '='
}

// number is the token of digits.
func number(digits string) (Token, api.Errno) {
	if digits[0] == '0' && len(digits) > 1 {
		return Token{}, api.ErrNumber
	}
	n := 0
	for i := range len(digits) {
		d := int(digits[i] - '0')
		if n > (greatest-d)/10 {
			return Token{}, api.ErrNumber
		}
		n = 10*n + d
	}
	return Token{Kind: Number, Text: digits, N: n}, api.OK
}

// span is how many bytes at the beginning are all such as a test takes.
func span(s string, takes func(byte) bool) int {
	for i := range len(s) {
		if !takes(s[i]) {
			return i
		}
	}
	return len(s)
}

func isLetter(c byte) bool { return 'a' <= c && c <= 'z' || 'A' <= c && c <= 'Z' }

func isDigit(c byte) bool { return '0' <= c && c <= '9' }

func inWord(c byte) bool { return isLetter(c) || isDigit(c) || c == '_' }
