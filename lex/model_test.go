package lex

import (
	"math/big"
	"math/rand/v2"
	"regexp"
	"strings"

	"gnomon/api"
)

// The words of the chapter another way: patterns for blanks, words and numbers, and the list of signs, longer ones first.
var (
	blankPattern  = regexp.MustCompile(`^(?:[ \t\r\n]|#[^\n]*)*`)
	wordPattern   = regexp.MustCompile(`^[A-Za-z][A-Za-z0-9_]*`)
	numberPattern = regexp.MustCompile(`^[0-9]+`)
	signs         = strings.Fields(`.. := -> && || != <= == >= , ; . { } ( ) ! < > ? + - *`)
	keptWords     = strings.Fields(`clock int chan auto loc edge in inv when sync do urgent committed true reach never`)
)

// wantNext is Next by the patterns.
func wantNext(s string, at int) (Token, int, api.Errno) {
	if at < 0 || at > len(s) {
		return Token{}, 0, api.ErrRange
	}
	at += len(blankPattern.FindString(latin(s[at:])))
	rest := s[at:]
	if rest == "" {
		return Token{Kind: End, At: at}, at, api.OK
	}
	if w := wordPattern.FindString(rest); w != "" {
		return Token{Kind: Word, Text: w, At: at}, at + len(w), api.OK
	}
	if d := numberPattern.FindString(rest); d != "" {
		n, _ := new(big.Int).SetString(d, 10)
		if d != n.String() || n.Cmp(big.NewInt(2147483647)) > 0 {
			return Token{}, at, api.ErrNumber
		}
		return Token{Kind: Number, Text: d, N: int(n.Int64()), At: at}, at + len(d), api.OK
	}
	for _, x := range signs {
		if strings.HasPrefix(rest, x) {
			return Token{Kind: Sign, Text: x, At: at}, at + len(x), api.OK
		}
	}
	return Token{}, at, api.ErrChar
}

// latin has a letter in the place of each byte above 127: patterns go by runes, the chapter by bytes.
func latin(s string) string {
	b := []byte(s)
	for i := range b {
		if b[i] > 127 {
			b[i] = 'x'
		}
	}
	return string(b)
}

// wantAll is All by the patterns.
func wantAll(s string) ([]Token, api.Errno, int) {
	var l []Token
	for at := 0; ; {
		t, behind, err := wantNext(s, at)
		if err != api.OK {
			return nil, err, behind
		}
		l = append(l, t)
		if t.Kind == End {
			return l, api.OK, 0
		}
		at = behind
	}
}

// texts hands all texts of up to so many bytes of an alphabet to a check.
func texts(alphabet string, most int, check func(string)) {
	check("")
	if most == 0 {
		return
	}
	for _, c := range []byte(alphabet) {
		texts(alphabet, most-1, func(s string) { check(string([]byte{c}) + s) })
	}
}

// some are texts of tokens, right by themselves and also beside one another with a blank between.
func some(r *rand.Rand) []string {
	pieces := append([]string{"x", "A", "n_1", "zZ9_", "clockx", "Clock", "0", "1", "10", "907", "2147483647", "2147483646"}, signs...)
	pieces = append(pieces, keptWords...)
	var l []string
	for range r.IntN(12) {
		l = append(l, pieces[r.IntN(len(pieces))])
	}
	return l
}

// gap is blanks and remarks of some kind, at least one of them.
func gap(r *rand.Rand) string {
	gaps := []string{" ", "\t", "\r", "\n", "#\n", "# \x80 remark ## 07 =\n", "  \n\n", "#clock x;\r\n"}
	s := gaps[r.IntN(len(gaps))]
	for r.IntN(3) == 0 {
		s += gaps[r.IntN(len(gaps))]
	}
	return s
}

// bare is tokens without their places.
func bare(l []Token) []Token {
	var out []Token
	for _, t := range l {
		t.At = 0
		out = append(out, t)
	}
	return out
}
