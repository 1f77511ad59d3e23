package lex

import (
	"math"
	"math/rand/v2"
	"slices"
	"strings"
	"testing"

	"gnomon/api"
)

// interesting are bytes of each kind, and those that make signs of two.
const interesting = "aZ_019.->:=<!&|;*# \n\x80"

// checkNext holds Next at all places of a text, and outside of it, against the patterns.
func checkNext(t *testing.T, s string) {
	t.Helper()
	for _, at := range []int{math.MinInt, -1 << 32, -1, len(s) + 1, 1<<32 + len(s), math.MaxInt} {
		if x, k, err := Next(s, at); x != (Token{}) || k != 0 || err != api.ErrRange {
			t.Fatalf("%q %d: %v %d %d", s, at, x, k, err)
		}
	}
	for at := range len(s) + 1 {
		x, k, err := Next(s, at)
		if wx, wk, werr := wantNext(s, at); x != wx || k != wk || err != werr {
			t.Fatalf("%q %d: %v %d %d, not %v %d %d", s, at, x, k, err, wx, wk, werr)
		}
	}
}

// checkAll holds All of a text against the patterns.
func checkAll(t *testing.T, s string) {
	t.Helper()
	l, err, at := All(s)
	if wl, werr, wat := wantAll(s); !slices.Equal(l, wl) || err != werr || at != wat {
		t.Fatalf("%q: %v %d %d, not %v %d %d", s, l, err, at, wl, werr, wat)
	}
}

// TestP9_1Next: all texts of two bytes, and all of three of bytes of each kind.
func TestP9_1Next(t *testing.T) {
	var all []byte
	for c := range 256 {
		all = append(all, byte(c))
	}
	texts(string(all), 2, func(s string) { checkNext(t, s) })
	texts(interesting, 3, func(s string) { checkNext(t, s) })
	texts(".->=&|", 5, func(s string) { checkNext(t, s) })
}

// TestP9_1All: the same way.
func TestP9_1All(t *testing.T) {
	texts(interesting, 3, func(s string) { checkAll(t, s) })
	texts("a0#\n .=", 5, func(s string) { checkAll(t, s) })
	r := rand.New(rand.NewPCG(9, 1))
	for range 20000 {
		l := some(r)
		s := strings.Join(l, []string{"", " ", "\n", "#\n"}[r.IntN(4)])
		if r.IntN(3) == 0 {
			at := r.IntN(len(s) + 1)
			s = s[:at] + string([]byte{byte(r.IntN(256))}) + s[at:]
		}
		checkAll(t, s)
		checkNext(t, s)
	}
}

// TestP9_1Examples: the texts of the tokens, or the error and its place.
func TestP9_1Examples(t *testing.T) {
	for _, x := range []struct {
		s    string
		want string
		err  api.Errno
		at   int
	}{
		{"x<=5;", "x <= 5 ;", 0, 0}, {"1..3", "1 .. 3", 0, 0}, {"a->b", "a -> b", 0, 0}, {"07", "", api.ErrNumber, 0}, {"a = 1", "", api.ErrChar, 2}, {"a-1", "a - 1", 0, 0},
		{"", "", 0, 0}, {" \t\r\n", "", 0, 0}, {"# a remark = 07", "", 0, 0}, {"#", "", 0, 0}, {"#\n", "", 0, 0}, {"# a\nb", "b", 0, 0}, {"a#b", "a", 0, 0}, {"a#b\rc\nd", "a d", 0, 0}, {"##\n#\nx", "x", 0, 0}, {"# \xff\x00\nx", "x", 0, 0},
		{"...", ".. .", 0, 0}, {"....", ".. ..", 0, 0}, {"1...3", "1 .. . 3", 0, 0}, {"1.5", "1 . 5", 0, 0}, {"<==", "<=", api.ErrChar, 2}, {"<===", "<= ==", 0, 0}, {"===", "", api.ErrChar, 2}, {"!==", "", api.ErrChar, 2}, {"!!=", "! !=", 0, 0}, {"-->", "- ->", 0, 0}, {"->>", "-> >", 0, 0}, {">=>", ">= >", 0, 0}, {"=>", "", api.ErrChar, 0}, {"=<", "", api.ErrChar, 0}, {"<-", "< -", 0, 0}, {"<>", "< >", 0, 0},
		{"&&&", "", api.ErrChar, 2}, {"&&&&", "&& &&", 0, 0}, {"|||", "", api.ErrChar, 2}, {"&", "", api.ErrChar, 0}, {"|", "", api.ErrChar, 0}, {"&|", "", api.ErrChar, 0}, {"& &", "", api.ErrChar, 0}, {":", "", api.ErrChar, 0}, {": =", "", api.ErrChar, 0}, {"a:=1", "a := 1", 0, 0}, {":==", "", api.ErrChar, 2}, {"=", "", api.ErrChar, 0}, {"= =", "", api.ErrChar, 0},
		{"_", "", api.ErrChar, 0}, {"_x", "", api.ErrChar, 0}, {"x_", "x_", 0, 0}, {"x__1_", "x__1_", 0, 0}, {"1x", "1 x", 0, 0}, {"0x", "0 x", 0, 0}, {"1_", "", api.ErrChar, 1}, {"x1y2", "x1y2", 0, 0}, {"xä", "", api.ErrChar, 1}, {"\x80", "", api.ErrChar, 0}, {"\x00", "", api.ErrChar, 0}, {"\v", "", api.ErrChar, 0}, {"\f", "", api.ErrChar, 0}, {"\u00a0", "", api.ErrChar, 0}, {"a\x7f", "", api.ErrChar, 1}, {"/", "", api.ErrChar, 0}, {"[", "", api.ErrChar, 0}, {"@", "", api.ErrChar, 0}, {"`", "", api.ErrChar, 0}, {"\"", "", api.ErrChar, 0}, {"a % b", "", api.ErrChar, 2},
		{"0", "0", 0, 0}, {"00", "", api.ErrNumber, 0}, {"x 00", "", api.ErrNumber, 2}, {"0 0", "0 0", 0, 0}, {"01x", "", api.ErrNumber, 0}, {"-0", "- 0", 0, 0}, {"-07", "", api.ErrNumber, 1}, {"#\n 09", "", api.ErrNumber, 3},
		{"2147483647", "2147483647", 0, 0}, {"2147483648", "", api.ErrNumber, 0}, {"2147483650", "", api.ErrNumber, 0}, {"4294967296", "", api.ErrNumber, 0}, {"4294967297x", "", api.ErrNumber, 0}, {"18446744073709551616", "", api.ErrNumber, 0}, {"18446744073709551617", "", api.ErrNumber, 0}, {"1,99999999999", "", api.ErrNumber, 2}, {"a 1000000000 = 07", "", api.ErrChar, 13},
		{"07 =", "", api.ErrNumber, 0}, {"= 07", "", api.ErrChar, 0},
	} {
		l, err, at := All(x.s)
		if err != x.err || at != x.at {
			t.Errorf("%q: %d at %d", x.s, err, at)
		}
		if err != api.OK {
			if len(l) != 0 {
				t.Errorf("%q: %v beside an error", x.s, l)
			}
			continue
		}
		if last := l[len(l)-1]; last != (Token{At: len(x.s)}) || Join(l...) != x.want {
			t.Errorf("%q: %q %v", x.s, Join(l...), last)
		}
	}
}

// TestP9_1Fields: Kind, Text, N, At, and the place behind.
func TestP9_1Fields(t *testing.T) {
	s := " do # x\n\t250..x"
	for _, x := range []struct {
		at   int
		want Token
		k    int
	}{
		{0, Token{Kind: Word, Text: "do", At: 1}, 3}, {1, Token{Kind: Word, Text: "do", At: 1}, 3}, {2, Token{Kind: Word, Text: "o", At: 2}, 3},
		{3, Token{Kind: Number, Text: "250", N: 250, At: 9}, 12}, {5, Token{Kind: Word, Text: "x", At: 6}, 7}, {10, Token{Kind: Number, Text: "50", N: 50, At: 10}, 12},
		{12, Token{Kind: Sign, Text: "..", At: 12}, 14}, {13, Token{Kind: Sign, Text: ".", At: 13}, 14}, {14, Token{Kind: Word, Text: "x", At: 14}, 15}, {15, Token{Kind: End, At: 15}, 15},
	} {
		if got, k, err := Next(s, x.at); got != x.want || k != x.k || err != api.OK {
			t.Error(x.at, got, k, err)
		}
	}
	if got, k, err := Next("a #", 1); got != (Token{At: 3}) || k != 3 || err != api.OK {
		t.Error(got, k, err)
	}
	if End != 0 || Word != 1 || Number != 2 || Sign != 3 {
		t.Error("kinds")
	}
}

// TestP9_1Signs: each sign is one token, whose text it is.
func TestP9_1Signs(t *testing.T) {
	if len(signs) != 23 {
		t.Fatal(len(signs))
	}
	for _, s := range signs {
		if x, k, err := Next(s, 0); x != (Token{Kind: Sign, Text: s}) || k != len(s) || err != api.OK {
			t.Error(s, x, k, err)
		}
	}
}

// TestP9_1Numbers: as long as the digits go.
func TestP9_1Numbers(t *testing.T) {
	for n := 1; n < 1<<31; n = n*3 + 1 {
		for _, k := range []int{n, n - 1} {
			s := decimal(k)
			if x, behind, err := Next(s, 0); x != (Token{Kind: Number, Text: s, N: k}) || behind != len(s) || err != api.OK {
				t.Error(s, x, behind, err)
			}
		}
	}
	for _, s := range []string{"2147483648", strings.Repeat("9", 100), "1" + strings.Repeat("0", 1<<20), strings.Repeat("0", 1<<20), "0" + strings.Repeat("1", 99), "2147483647" + "0"} {
		for _, tail := range []string{"", " ", "=", "x", "_"} {
			x, k, err := Next(" "+s+tail, 0)
			if x != (Token{}) || k != 1 || err != api.ErrNumber {
				t.Error(len(s), tail, x, k, err)
			}
		}
	}
	// Words have no limit here.
	long := strings.Repeat("x_1", 1<<18)
	if x, k, err := Next(long, 0); x.Text != long || x.Kind != Word || k != len(long) || err != api.OK {
		t.Error("word", k, err)
	}
	deep := strings.Repeat("# \n", 1<<18) + "x"
	if l, err, _ := All(deep); len(l) != 2 || l[0].At != len(deep)-1 || err != api.OK {
		t.Error("remarks", err)
	}
}

// decimal is a number in decimal.
func decimal(n int) string {
	if n < 10 {
		return string(rune('0' + n))
	}
	return decimal(n/10) + string(rune('0'+n%10))
}

// TestP9_2IsName: against the pattern, of all texts of two bytes, and words about the limit.
func TestP9_2IsName(t *testing.T) {
	want := func(s string) bool {
		return wordPattern.FindString(s) == s && s != "" && len(s) <= api.MaxName && !slices.Contains(keptWords, s)
	}
	check := func(s string) {
		if IsName(s) != want(s) {
			t.Fatalf("%q: %t", s, IsName(s))
		}
	}
	var all []byte
	for c := range 256 {
		all = append(all, byte(c))
	}
	texts(string(all), 2, check)
	texts("inA_0 ", 5, check)
	for n := range 40 {
		check(strings.Repeat("a", n))
		check("Z" + strings.Repeat("_", n))
		check("z" + strings.Repeat("9", n))
	}
	for _, w := range keptWords {
		for _, s := range []string{w, w + "x", "x" + w, w[1:], w[:len(w)-1], w + "_", strings.ToUpper(w), w + " ", " " + w, w + w, w + "\n", w + "\x00"} {
			check(s)
		}
	}
	for s, want := range map[string]bool{"clock": false, "x_1": true, "_x": false, "": false, "x": true, "1": false, "x y": false, "x#": false, "x.y": false, "abcdefghijklmnop": true, "abcdefghijklmnopq": false, "Clock": true, "committed": false, "reach": false, "never": false, "false": true, "xä": false, "End": true} {
		if IsName(s) != want {
			t.Error(s)
		}
	}
	if len(keptWords) != 16 {
		t.Error(len(keptWords))
	}
}

// TestP9_2Line: against a count byte by byte.
func TestP9_2Line(t *testing.T) {
	check := func(s string) {
		line, column := 1, 1
		for _, at := range []int{math.MinInt, -7, -1, 0} {
			if l, c := Line(s, at); l != 1 || c != 1 {
				t.Fatalf("%q %d: %d %d", s, at, l, c)
			}
		}
		for at := range len(s) {
			if l, c := Line(s, at); l != line || c != column {
				t.Fatalf("%q %d: %d %d", s, at, l, c)
			}
			column++
			if s[at] == '\n' {
				line, column = line+1, 1
			}
		}
		for _, at := range []int{len(s), len(s) + 1, 1<<32 + len(s), math.MaxInt} {
			if l, c := Line(s, at); l != line || c != column {
				t.Fatalf("%q %d: %d %d", s, at, l, c)
			}
		}
	}
	texts("a\n\r\x85#", 5, check)
	if l, c := Line("a\nbc", 3); l != 2 || c != 2 {
		t.Error(l, c)
	}
	if l, c := Line("", 0); l != 1 || c != 1 {
		t.Error(l, c)
	}
}

// TestP9_2Join: Ends and empty texts are left out, all others stand as they are.
func TestP9_2Join(t *testing.T) {
	for _, x := range []struct {
		l    []Token
		want string
	}{
		{nil, ""}, {[]Token{}, ""}, {[]Token{{}}, ""}, {[]Token{{Kind: End, Text: "end"}}, ""}, {[]Token{{Kind: Word}}, ""},
		{[]Token{{Kind: Word, Text: "a"}}, "a"}, {[]Token{{Kind: Word, Text: "a"}, {Kind: Sign, Text: "<="}, {Kind: Number, Text: "5", N: 7}}, "a <= 5"},
		{[]Token{{}, {Kind: Word, Text: "a"}, {Kind: End, Text: "x"}, {Kind: Sign}, {Kind: Number, N: 3}, {Kind: Word, Text: "b", At: -1}, {}}, "a b"},
		{[]Token{{Kind: 9, Text: " x\n"}, {Kind: 255, Text: "#"}, {Kind: Number, Text: "07"}}, " x\n # 07"},
	} {
		if s := Join(x.l...); s != x.want {
			t.Errorf("%v: %q", x.l, s)
		}
	}
	if Join() != "" {
		t.Error("none")
	}
}

// TestP9_3There: All of Join of All's tokens.
func TestP9_3There(t *testing.T) {
	r := rand.New(rand.NewPCG(9, 3))
	for range 5000 {
		checkThere(t, strings.Join(some(r), []string{"", " "}[r.IntN(2)]))
	}
	texts("a0.-><=!", 4, func(s string) { checkThere(t, s) })
}

func checkThere(t *testing.T, s string) {
	t.Helper()
	l, err, _ := All(s)
	if err != api.OK {
		return
	}
	again, err, _ := All(Join(l...))
	if err != api.OK || !slices.Equal(bare(again), bare(l)) {
		t.Fatalf("%q: %q: %v %v %d", s, Join(l...), l, again, err)
	}
}

// TestP9_4Stand: the texts stand at their places, with blanks and remarks between.
func TestP9_4Stand(t *testing.T) {
	r := rand.New(rand.NewPCG(9, 4))
	for range 5000 {
		s := gap(r)
		for _, x := range some(r) {
			s += x + gap(r)
		}
		checkStand(t, s)
	}
}

func checkStand(t *testing.T, s string) {
	t.Helper()
	l, err, _ := All(s)
	if err != api.OK {
		return
	}
	at := 0
	for _, x := range l {
		between := s[at:x.At]
		if blankPattern.FindString(latin(between)) != latin(between) || !strings.HasPrefix(s[x.At:], x.Text) {
			t.Fatalf("%q: %v behind %q", s, x, between)
		}
		at = x.At + len(x.Text)
	}
	if at != len(s) || l[len(l)-1].Kind != End || slices.ContainsFunc(l[:len(l)-1], func(x Token) bool { return x.Kind == End || x.Text == "" }) {
		t.Fatalf("%q: %v", s, l)
	}
}

// TestP9_5GoesOn: Next, one behind the other, is All.
func TestP9_5GoesOn(t *testing.T) {
	r := rand.New(rand.NewPCG(9, 5))
	for range 5000 {
		s := strings.Join(some(r), gap(r))
		if r.IntN(2) == 0 {
			s += string([]byte{byte(r.IntN(256))}) + "07"
		}
		checkGoesOn(t, s)
	}
}

func checkGoesOn(t *testing.T, s string) {
	t.Helper()
	l, err, place := All(s)
	at := 0
	for i := 0; ; i++ {
		x, behind, e := Next(s, at)
		if e != api.OK {
			if e != err || behind != place {
				t.Fatalf("%q: %d %d, not %d %d", s, e, behind, err, place)
			}
			return
		}
		if err == api.OK && x != l[i] {
			t.Fatalf("%q: %v, not %v", s, x, l[i])
		}
		if x.Kind == End {
			if err != api.OK || i != len(l)-1 {
				t.Fatalf("%q: ends at %d", s, i)
			}
			return
		}
		at = behind
	}
}

// TestP9_6Between: blanks and remarks more change places alone.
func TestP9_6Between(t *testing.T) {
	r := rand.New(rand.NewPCG(9, 6))
	for range 5000 {
		s := strings.Join(some(r), " ")
		checkBetween(t, s, r)
	}
	for _, x := range []string{"x<=5;", "1..3", "a->b", "!!=", "..."} {
		for range 50 {
			checkBetween(t, x, r)
		}
	}
}

func checkBetween(t *testing.T, s string, r *rand.Rand) {
	t.Helper()
	l, err, _ := All(s)
	if err != api.OK {
		return
	}
	wide, at := "", 0
	for _, x := range l {
		wide += s[at:x.At]
		if r.IntN(2) == 0 {
			wide += gap(r)
		}
		wide += x.Text
		at = x.At + len(x.Text)
	}
	wide += []string{"", gap(r), "# the end", "#"}[r.IntN(4)]
	again, err, _ := All(wide)
	if err != api.OK || !slices.Equal(bare(again), bare(l)) {
		t.Fatalf("%q, %q: %v %v %d", s, wide, l, again, err)
	}
}

// TestP3StaysAsItIs: tokens that are handed in stay, spare room too; what All answers is the caller's.
func TestP3StaysAsItIs(t *testing.T) {
	l, _, _ := All("x <= 5")
	room := append(slices.Clone(l), Token{Text: "spare"})
	Join(room[:4]...)
	if !slices.Equal(room[:4], l) || room[4].Text != "spare" {
		t.Error(room)
	}
	for i := range l {
		l[i] = Token{}
	}
	if again, _, _ := All("x <= 5"); Join(again...) != "x <= 5" {
		t.Error(again)
	}
	// A table that a call changed would show at the second one.
	for range 2 {
		if IsName("clock") || !IsName("clocks") {
			t.Error("kept")
		}
	}
}

// FuzzP9_1: whatever the text is.
func FuzzP9_1(f *testing.F) {
	for _, s := range []string{"", "clock x; auto A { loc a inv x <= 5; }", "# \xff", "1..3", "a = 07"} {
		f.Add(s, 0)
	}
	f.Fuzz(func(t *testing.T, s string, at int) {
		if len(s) < 200 {
			checkNext(t, s)
		}
		checkAll(t, s)
		checkThere(t, s)
		checkStand(t, s)
		checkGoesOn(t, s)
		Line(s, at)
		x, k, err := Next(s, at)
		if wx, wk, werr := wantNext(s, at); x != wx || k != wk || err != werr {
			t.Errorf("%q %d", s, at)
		}
	})
}
