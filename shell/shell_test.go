package shell

import (
	"fmt"
	"math/rand/v2"
	"strings"
	"testing"

	"gnomon/api"
	"gnomon/net"
	"gnomon/parse"
)

// TestP28Examples: those of the chapter.
func TestP28Examples(t *testing.T) {
	isSaid(t,
		"net a "+small, "ok",
		"ask a reach A.b", "yes 2 2\n3 A.0\n0 end",
		"ask a never A.a && x > 5", "yes 2 2",
		"moves a", "moves A.0",
		"max a A.b && x > 7", "max 7",
		"zero z 2", "ok",
		"up z", "ok",
		"limit z x1-x0<3", "ok",
		"print z", "2: x1-x0<3 x1-x2<=0 x2-x0<3 x2-x1<=0",
		"point z", "0 0",
		"has z 5/2 5/2", "yes",
		"hello", "word",
	)
}

// TestP28_1Lines: scripts without a line, lines that are passed over, with and without a line feed at the end.
func TestP28_1Lines(t *testing.T) {
	for _, w := range [][2]string{
		{"", ""}, {"\n", ""}, {"\n\n\n", ""}, {" ", ""}, {"   \n  ", ""}, {"#", ""}, {"#\n", ""}, {"# hello", ""}, {"   # hello\n", ""}, {"#hello\n#\n", ""}, {" #\n \n#", ""}, {"##", ""}, {"#net a b", ""},
		{"hello", "word\n"}, {"hello\n", "word\n"}, {"\nhello", "word\n"}, {"hello\n\n", "word\n"}, {"hello\n ", "word\n"}, {"hello\n#", "word\n"}, {"a\nb\nc", "word\nword\nword\n"}, {"a\nb\nc\n", "word\nword\nword\n"},
		{"zone z 1", "ok\n"}, {"zone z 1\n", "ok\n"}, {"zone z 1\nprint z", "ok\n1:\n"}, {"zone z 1\nprint z\n", "ok\n1:\n"}, {"zone z 1\n\n# x\n  \nprint z", "ok\n1:\n"},
		// Only the byte 32 is a blank, and only the byte 10 ends a line.
		{"\t", "word\n"}, {"\r\n", "word\n"}, {"\t# x", "word\n"}, {"zone z 1\r\nprint z", "word\nnone\n"}, {"zone\tz 1", "word\n"}, {"zone z\t1", "word\n"}, {"zone z 1\x00", "word\n"}, {"zone z 1\u00a0", "word\n"}, {"zone z 1\u2028print z", "word\n"}, {"\x0b\x0c", "word\n"}, {"zone z 1 # x", "word\n"}, {"hello # x", "word\n"}, {"\xff\xfe", "word\n"},
	} {
		if got := Run(w[0]); got != w[1] {
			t.Errorf("%q: %q, not %q", w[0], got, w[1])
		}
	}
}

// TestP28_1Blanks: several blanks between words, and at both ends.
func TestP28_1Blanks(t *testing.T) {
	isSaid(t,
		"   zone   z   2   ", "ok", " zero y 1", "ok", "zero  w 2 ", "ok",
		"  up  w  ", "ok", "down   w", "ok", " reset  w   1    5 ", "ok", "free  w  2 ", "ok", "  limit   z   x1-x0<=5   x2-x1<3  ", "ok", "widen  y   3   ", "ok", " print   z ", "2: x1-x0<=5 x1-x2<=5 x2-x0<8 x2-x1<3", "  point  z", "0 0", " includes   z   w ", "no", "  equal  z  z  ", "yes",
		"  net   a "+small+"  ", "ok", "   show  a  ", "clock x;\nauto A {\n  loc a inv x <= 5;\n  loc b;\n  edge a -> b when x >= 3 do x := 0;\n}", "  moves  a ", "moves A.0", "  max   a   ", "max 5", "   max  a    x > 9  ", "max 9", "  ask   a reach   A.b  ", "yes 2 2\n3 A.0\n0 end", "  plan   a   1 reach  A.b ", "yes 2 2\n3 A.0\n0 end",
		// A TEXT begins just behind the blank that ends the word ahead of it: further blanks are of it.
		"ask a  reach A.b", "error 110 0", "plan a 1  reach A.b", "error 110 0", "has y  1", "word", "has y 1 ", "word", "has z 1  1", "word", "  has   y 0", "yes", "max a  q", "error 112 1", "net b    q", "error 110 3",
	)
}

// TestP28_1Words: each line of the table with too few and with too many words.
func TestP28_1Words(t *testing.T) {
	ahead := "net a " + small + "\nzone a 1\nzone b 1\n"
	for _, w := range []struct {
		line, want string
	}{
		{"show a", "clock x;\nauto A {\n  loc a inv x <= 5;\n  loc b;\n  edge a -> b when x >= 3 do x := 0;\n}"}, {"moves a", "moves A.0"},
		{"zone a 1", "ok"}, {"zero a 1", "ok"}, {"up a", "ok"}, {"down a", "ok"}, {"reset a 1 2", "ok"}, {"free a 1", "ok"}, {"print a", "1:"}, {"point a", "0"}, {"includes a b", "yes"}, {"equal a b", "yes"},
	} {
		isLast(t, ahead, w.line, w.want)
		words := strings.Split(w.line, " ")
		for i := range words {
			isLast(t, ahead, strings.Join(words[:i], " "), map[bool]string{true: "word"}[i > 0])
		}
		for _, more := range []string{" a", " 1", " #", " x1-x0<=5", " 1 1 1", " \t"} {
			isLast(t, ahead, w.line+more, "word")
		}
	}
	for _, w := range []struct {
		line, want string
	}{
		{"net", "word"}, {"net a", "word"}, {"net a ", "word"}, {"net a    ", "word"}, {"ask", "word"}, {"ask a", "word"}, {"ask a ", "word"}, {"ask a   ", "word"}, {"plan", "word"}, {"plan a", "word"}, {"plan a 1", "word"}, {"plan a 1 ", "word"}, {"plan a 1    ", "word"}, {"plan a reach A.b", "word"},
		{"max", "word"}, {"max a", "max 5"}, {"max a ", "max 5"}, {"max a    ", "max 5"}, {"max a true", "max 5"}, {"limit", "word"}, {"limit a", "word"}, {"limit a ", "word"}, {"limit a  ", "word"}, {"limit a x1-x0<=5", "ok"}, {"limit a x1-x0<=5 x1-x0<=4", "ok"}, {"widen", "word"}, {"widen a 1", "ok"}, {"has", "word"}, {"has ", "word"}, {"has a 1", "yes"},
	} {
		isLast(t, ahead, w.line, w.want)
	}
	// First words that are none.
	for _, line := range []string{"hello", "hello a", "Show a", "SHOW a", "sho a", "shows a", "nets a " + small, "upa", "a", "1", "x1-x0<=5", "ok", "error 7", "include a b", "copy a b", "-", "!", "word", "none", "long", "show\ta", "\x00", "printa", "equals a b"} {
		isLast(t, ahead, line, "word")
	}
}

// linesOf are lines of each kind with a NAME in them: of a network, of a zone, of one that will be.
func linesOf(name string) (nets, zones, takers []string) {
	nets = []string{"show " + name, "max " + name, "max " + name + " true", "ask " + name + " reach true", "plan " + name + " 0 reach true", "moves " + name}
	zones = []string{"up " + name, "down " + name, "reset " + name + " 1 0", "free " + name + " 1", "limit " + name + " x1-x0<5", "widen " + name + " 3", "print " + name, "point " + name, "has " + name + " 1", "includes " + name + " known", "includes known " + name, "equal " + name + " known", "equal known " + name}
	takers = []string{"net " + name + " " + small, "zone " + name + " 1", "zero " + name + " 1"}
	return nets, zones, takers
}

// TestP28_1Names: names that are none such: of no letter, of nine, of other signs; those of one letter and of eight may be. No network, no zone of that name: none.
func TestP28_1Names(t *testing.T) {
	for _, name := range []string{"A", "aB", "abcdefghi", "abcdefghijklmnop", "a1", "1", "1a", "a_b", "a-b", "a.b", "é", "a\t", "\x00", "a\xff", "`", "{", "@", "[", "#", "a#", "ſ"} {
		nets, zones, takers := linesOf(name)
		ahead := "zone known 1\nnet known " + small + "\n"
		for _, line := range append(append(nets, zones...), takers...) {
			isLast(t, ahead, line, "word")
		}
	}
	for _, name := range []string{"a", "z", "m", "abcdefgh", "zzzzzzzz", "net", "zone", "reach", "word", "up"} {
		nets, zones, takers := linesOf(name)
		ahead := "zone known 1\nnet known " + small + "\n"
		for _, line := range append(nets, zones...) {
			isLast(t, ahead, line, "none")
		}
		for _, line := range takers {
			isLast(t, ahead, line, "ok")
		}
		// A network is no zone, and a zone no network.
		for _, line := range zones {
			isLast(t, ahead+takers[0]+"\n", line, "none")
		}
		for _, line := range nets {
			isLast(t, ahead+takers[1]+"\n", line, "none")
			isLast(t, ahead+takers[2]+"\n", line, "none")
		}
		// Both may have one name.
		isSaid(t, takers[0], "ok", takers[2], "ok", "moves "+name, "moves A.0", "print "+name, "1: x1-x0<=0", "up "+name, "ok", "print "+name, "1:", "moves "+name, "moves A.0", "net "+name+" "+stuck, "ok", "print "+name, "1:", "moves "+name, "none")
	}
}

// TestP28_1Numbers: an N with a nought ahead, with a sign, of 2^31 - 1 and of 2^31, and other words.
func TestP28_1Numbers(t *testing.T) {
	ahead := "zone z 2\nnet a " + small + "\n"
	lines := []string{"zone z N", "zero z N", "reset z N 1", "reset z 1 N", "free z N", "widen z N 1", "widen z 1 N", "plan a N reach true"}
	for _, n := range []string{"00", "01", "007", "+0", "+1", "-0", "-1", "-5", "2147483648", "4294967296", "9223372036854775808", "99999999999999999999999999", "1.0", "1/2", "1e1", "0x1", "1_0", "a", "#", "１", "٣", "1,", "\t1", "inf"} {
		for _, line := range lines {
			isLast(t, ahead, strings.Replace(line, "N", n, 1), "word")
		}
	}
	for n, want := range map[string][]string{
		"0":          {"ok", "ok", "error 12", "ok", "error 12", "ok", "ok", "yes 1 1\n0 end"},
		"1":          {"ok", "ok", "ok", "ok", "ok", "ok", "ok", "yes 1 1\n0 end"},
		"2":          {"ok", "ok", "ok", "ok", "ok", "ok", "ok", "yes 1 1\n0 end"},
		"3":          {"ok", "ok", "error 12", "ok", "error 12", "ok", "ok", "error 7"},
		"8":          {"ok", "ok", "error 12", "ok", "error 12", "ok", "ok", "error 7"},
		"9":          {"error 12", "error 12", "error 12", "ok", "error 12", "ok", "ok", "error 7"},
		"1048576":    {"error 12", "error 12", "error 12", "ok", "error 12", "ok", "ok", "error 7"},
		"1048577":    {"error 12", "error 12", "error 12", "error 13", "error 12", "error 13", "error 13", "error 7"},
		"2147483647": {"error 12", "error 12", "error 12", "error 13", "error 12", "error 13", "error 13", "error 7"},
	} {
		for i, line := range lines {
			isLast(t, ahead, strings.Replace(line, "N", n, 1), want[i])
		}
	}
}

// TestP28_1Order: of several errors word comes first, then none, then the error of a call.
func TestP28_1Order(t *testing.T) {
	ahead := "zone z 2\nnet a " + small + "\nnet u " + unchecked + "\n"
	for _, w := range [][2]string{
		{"zone Z 99", "word"}, {"reset q 9 01", "word"}, {"reset q 9 1", "none"}, {"reset z 9 2000000", "error 12"}, {"reset z 1 2000000", "error 13"}, {"free q 01", "word"}, {"free q 9", "none"}, {"free z 9", "error 12"},
		{"limit q x1-x0", "word"}, {"limit q x1-x0<5 x1", "word"}, {"limit q x9-x0<5", "none"}, {"limit z x9-x0<5 x1", "word"}, {"limit z x9-x0<5", "error 12"}, {"widen q x", "word"}, {"widen q 9999999", "none"}, {"widen z 9999999", "error 6"}, {"widen z 9999999 1", "error 13"},
		{"has q 2/2", "word"}, {"has q 1 1", "none"}, {"has z 1 1 1 1 1 1 1 1 1", "word"}, {"includes q Z", "word"}, {"includes Z q", "word"}, {"includes z q", "none"}, {"includes q z", "none"}, {"equal q z 1", "word"}, {"equal q q", "none"}, {"up q z", "word"},
		{"ask q", "word"}, {"ask q x", "none"}, {"ask a x", "error 110 0"}, {"plan q 01 x", "word"}, {"plan q 9 x", "none"}, {"plan q 9", "word"}, {"plan a 9 x", "error 110 0"}, {"plan a 9 reach q", "error 112 6"}, {"plan a 9 reach true", "error 7"}, {"max q @", "none"}, {"max a @", "error 90 0"}, {"max Q @", "word"}, {"net A @", "word"}, {"net a @", "error 90 0"},
		// A network that check does not take: the question's own error first, then the network's.
		{"ask u reach q", "error 112 6"}, {"ask u reach true", "error 13"}, {"plan u 0 reach true", "error 13"}, {"plan u 1 reach true", "error 13"}, {"plan u 2 reach true", "error 13"}, {"plan u 3 reach true", "error 13"}, {"plan a 3 reach x > -1", "error 13"}, {"max u @", "error 90 0"}, {"max u true", "error 13"}, {"max u", "error 13"},
	} {
		isLast(t, ahead, w[0], w[1])
	}
}

// TestP28_1Net: networks that are read, in the place of one too; that parse does not take, that check does not take, and are kept.
func TestP28_1Net(t *testing.T) {
	shown := "clock x;\nauto A {\n  loc a inv x <= 5;\n  loc b;\n  edge a -> b when x >= 3 do x := 0;\n}"
	isSaid(t,
		"show a", "none", "net a "+small, "ok", "show a", shown, "net b auto B{loc k;}", "ok", "show b", "auto B {\n  loc k;\n}", "show a", shown,
		// With an error nothing is put in any place.
		"net a", "word", "net a ", "word", "net a clock x;", "error 111 8", "show a", shown, "net a  clock x; clock x;", "error 112 16", "show a", shown, "net c auto A { loc a; edge a -> b; }", "error 112 26", "show c", "none", "net a auto A { loc a; } @", "error 90 18", "net a clock x; auto A { loc a inv x <= 07; }", "error 91 33", "net a clock x, y; auto A { loc a inv x - y < 3; }", "error 120 33", "net a hello", "error 110 0", "net a int n in 3 .. 2 := 3; auto A { loc a; }", "error 124 14", "net a clock a, b, c, d, e, f, g, h, i; auto A { loc a; }", "error 6 30", "net a \t", "error 111 1", "show a", shown,
		// One that check does not take is kept, in the place of another one too.
		"net a "+unchecked, "check 13", "show a", "clock x;\nauto A {\n  loc a inv x <= -1;\n  loc b;\n  edge a -> b;\n}", "moves a", "moves A.0", "ask a reach true", "error 13", "max a", "error 13", "net a "+stuck, "ok", "show a", "auto A {\n  loc a;\n}", "moves a", "none", "max a", "max",
		// A remark of a network goes up to the end of its line.
		"net a "+stuck+" # auto B {", "ok", "show a", "auto A {\n  loc a;\n}", "net a # "+small, "error 111 "+fmt.Sprint(2+len(small)), "show b", "auto B {\n  loc k;\n}",
	)
	// As it is: its text is read again, and is the same.
	n, err, at := parse.Net(rich)
	if err != api.OK {
		t.Fatal(err, at)
	}
	text, err := net.Print(n)
	if err != api.OK {
		t.Fatal(err)
	}
	isSaid(t, "net r "+rich, "ok", "show r", strings.TrimSuffix(text, "\n"), "net s "+strings.ReplaceAll(text, "\n", " "), "ok", "show s", strings.TrimSuffix(text, "\n"))
}

// TestP28_1Max: of each clock its number; of the goal too.
func TestP28_1Max(t *testing.T) {
	isSaid(t,
		"net a "+small, "ok", "net r "+rich, "ok", "net s "+stuck, "ok", "net c clock x, y, z; auto A { loc a inv y <= 4; }", "ok",
		"max a", "max 5", "max a ", "max 5", "max a A.b", "max 5", "max a x < 3", "max 5", "max a x > 7", "max 7", "max a x > 7 || x == 9", "max 9", "max a  true ", "max 5", "max r", "max 9 7", "max r y > 12", "max 9 12", "max s", "max", "max s true", "max", "max c", "max -1 4 -1", "max c z > 0", "max -1 4 0",
		"max a q", "error 112 0", "max a A.b &&", "error 111 6", "max a x > -1", "error 13", "max a x - x < 3", "error 120 2", "max a reach A.b", "error 112 0", "max a \t", "error 111 1", "max a # x", "error 111 3", "max r m > -1", "max 9 7",
	)
}

// TestP28_1Ask: yes, no, unknown; Stored and Pops; the run; errors and their places.
func TestP28_1Ask(t *testing.T) {
	isSaid(t,
		"net a "+small, "ok",
		"ask a reach A.b", "yes 2 2\n3 A.0\n0 end", "ask a never A.b", "no 2 2\n3 A.0\n0 end", "ask a reach A.a && x > 5", "no 2 2", "ask a never A.a && x > 5", "yes 2 2", "ask a reach A.b && x > 7", "yes 2 2\n3 A.0\n22/3 end", "ask a reach true", "yes 1 1\n0 end", "ask a never true", "no 1 1\n0 end",
		"ask a A.b", "error 110 0", "ask a reach", "error 110 0", "ask a reach ", "error 111 6", "ask a Reach A.b", "error 110 0", "ask a reach q", "error 112 6", "ask a never A.b && q", "error 112 13", "ask a reach x > -1", "error 13", "ask a never A.b = 3", "error 90 10", "ask a reach\tA.b", "error 110 0", "ask a reach  A.b", "yes 2 2\n3 A.0\n0 end", "ask a reach x > 07", "error 91 10", "ask a reach # x", "error 111 9",
		"net b clock x; auto A { loc a inv x > 0; }", "ok", "ask b reach true", "no 0 0", "ask b never true", "yes 0 0", "plan b 1 never true", "yes 0 0",
		// More zones than may be stored.
		"net c int n in 0 .. 4096 := 0; auto A { loc a; edge a -> a do n := n + 1; }", "ok", "ask c reach n == 4096", "unknown 4096 4096", "ask c never n == 4096", "unknown 4096 4096", "plan c 0 never n == 4096", "unknown 4096 4096", "plan c 3 never n == 4096", "error 7", "ask c reach n == 2", "yes 3 3\n0 A.0\n0 A.0\n0 end",
	)
}

// TestP28_1Plan: by a plan, and what was stored last looked at first.
func TestP28_1Plan(t *testing.T) {
	const grow = "clock x; int n in 0 .. 9 := 0; auto A { loc a inv x <= 5; loc b; edge a -> a when x >= 1 do n := n + 1, x := 0; edge a -> b when n > 2 && x > 3; }"
	const way = "1 A.0\n1 A.0\n1 A.0\n19/6 A.1\n3 end"
	const goal = "A.b && n == 4 || A.b && x > 6"
	const held = "clock x, y; auto A { loc a inv y <= 1; loc b; edge a -> a when y == 1 do y := 0; edge a -> b when x >= 2 do x := 0; edge b -> b when x <= 50; }"
	isSaid(t,
		"net a "+grow, "ok", "ask a reach "+goal, "yes 8 6\n"+way, "plan a 0 reach "+goal, "yes 6 5\n"+way, "plan a 0 never "+goal, "no 6 5\n"+way, "plan a 1 reach "+goal, "yes 6 5\n"+way, "plan a 2 reach "+goal, "yes 6 5\n"+way,
		"plan a 3 reach "+goal, "error 7", "plan a 2147483647 reach "+goal, "error 7", "plan a 3 reach q", "error 112 6", "plan a 3 "+goal, "error 110 0", "plan a 3 reach x > -1", "error 13", "plan a 1 reach x > -1", "error 13", "plan a 0 reach q", "error 112 6", "plan a 1 "+goal, "error 110 0",
	)
	// Each plan stores as many zones as a search by it does: no two of them as many.
	n, err, at := parse.Net(held)
	if err != api.OK {
		t.Fatal(err, at)
	}
	seen := map[string]int{}
	for plan := range 3 {
		want := strings.TrimSuffix(wantTold(n, "never A.a && A.b", plan, true), "\n")
		seen[want]++
		isLast(t, "net b "+held+"\n", fmt.Sprintf("plan b %d never A.a && A.b", plan), want)
	}
	if len(seen) != 3 {
		t.Error(seen)
	}
}

// TestP28_1Moves: those of the first state alone, as far as locations and variables say.
func TestP28_1Moves(t *testing.T) {
	isSaid(t,
		"net a "+small, "ok", "moves a", "moves A.0", "net b "+rich, "ok", "moves b", "moves A.0 B.0, A.1", "net c "+stuck, "ok", "moves c", "none",
		"net d chan c; auto A { loc a; loc b; edge a -> b sync c!; } auto B { loc a; edge a -> a sync c?; } auto C { loc a; edge a -> a sync c?; }", "ok", "moves d", "moves A.0 B.0, A.0 C.0",
		"net e clock x; auto A { loc a; edge a -> a when x > 5; edge a -> a when x < 0; }", "ok", "moves e", "moves A.0, A.1", "net f auto A { loc a; edge a -> a; } auto B { loc b committed; }", "ok", "moves f", "none", "net g int n in 0 .. 3 := 3; auto A { loc a; edge a -> a do n := n + 1; edge a -> a when n < 3; }", "ok", "moves g", "none",
		"net h clock x; auto A { loc a inv x > 0; edge a -> a; }", "ok", "moves h", "moves A.0",
	)
}

// TestP28_1Zones: each line that makes a zone, and what is told of it.
func TestP28_1Zones(t *testing.T) {
	isSaid(t,
		"zone z 2", "ok", "print z", "2:", "point z", "0 0", "zero y 2", "ok", "print y", "2: x1-x0<=0 x1-x2<=0 x2-x0<=0 x2-x1<=0", "includes z y", "yes", "includes y z", "no", "equal z y", "no", "equal z z", "yes", "includes y y", "yes",
		"up y", "ok", "print y", "2: x1-x2<=0 x2-x1<=0", "down y", "ok", "print y", "2: x1-x2<=0 x2-x1<=0", "reset y 1 5", "ok", "print y", "2: x0-x1<=-5 x1-x0<=5 x1-x2<=5", "free y 1", "ok", "print y", "2:", "equal y z", "yes",
		"limit z x1-x0<=7 x0-x1<-3 x2-x1<=0", "ok", "print z", "2: x0-x1<-3 x1-x0<=7 x1-x2<=7 x2-x0<=7 x2-x1<=0", "point z", "10/3 0", "down z", "ok", "print z", "2: x1-x0<=7 x1-x2<=7 x2-x0<=7 x2-x1<=0", "widen z 5 1", "ok", "print z", "2: x2-x1<=0", "reset z 2 3", "ok", "print z", "2: x0-x2<=-3 x2-x0<=3 x2-x1<=3",
		// In the place of one: of another number of clocks too.
		"zero z 0", "ok", "print z", "0:", "zone z 8", "ok", "print z", "8:", "point z", "0 0 0 0 0 0 0 0", "includes z y", "no", "equal y z", "no",
	)
}

// TestP28_1Empty: the empty zone, and one of no clocks, whose one valuation has no word.
func TestP28_1Empty(t *testing.T) {
	isSaid(t, "zone z 1", "ok", "limit z x1-x0<0", "ok", "print z", "1: empty", "point z", "none", "has z 0", "no", "up z", "ok", "point z", "none", "zone y 1", "ok", "includes y z", "yes", "includes z y", "no", "reset z 1 0", "ok", "print z", "1: empty")
	for _, w := range [][2]string{
		{"zone z 0\npoint z\nprint z\n", "ok\n\n0:\n"}, {"zone z 0\nhas z \n", "ok\nyes\n"}, {"zone z 0\nhas z\n", "ok\nyes\n"}, {"zone z 0\nhas z  \n", "ok\nword\n"}, {"zone z 0\nhas z 0\n", "ok\nno\n"}, {"zone z 0\nlimit z x0-x0<0\nhas z \npoint z\nprint z\n", "ok\nok\nno\nnone\n0: empty\n"}, {"zone z 0\nwiden z\nwiden z 1\n", "ok\nok\nerror 6\n"}, {"zone z 1\nhas z \nhas z\n", "ok\nno\nno\n"}, {"zone z 1\nwiden z\n", "ok\nerror 6\n"},
	} {
		if got := Run(w[0]); got != w[1] {
			t.Errorf("%q: %q, not %q", w[0], got, w[1])
		}
	}
}

// TestP28_1Errors: each call's error, without a place; nothing is put in any place then.
func TestP28_1Errors(t *testing.T) {
	ahead := "zone z 2\nlimit z x1-x2<=268435456 x2-x1<=9\n"
	is := "2: x1-x2<=268435456 x2-x1<=9"
	for _, w := range [][2]string{
		{"zone z 9", "error 12"}, {"zero z 9", "error 12"}, {"reset z 0 0", "error 12"}, {"reset z 3 0", "error 12"}, {"reset z 3 9999999", "error 12"}, {"reset z 1 1048577", "error 13"}, {"free z 0", "error 12"}, {"free z 3", "error 12"}, {"limit z x3-x0<=5", "error 12"}, {"limit z x1-x0<=5 x0-x3<=5", "error 12"}, {"limit z x-1-x0<=5", "error 12"}, {"limit z x0-x-7<=5", "error 12"}, {"limit z x2147483648-x0<=5", "error 12"}, {"limit z x1-x99999999999999999999<=5", "error 12"}, {"limit z x2-x0<=1", "error 10"}, {"widen z 1", "error 6"}, {"widen z 1 2 3", "error 6"}, {"widen z 1048577 1", "error 13"}, {"widen z 1 1048577", "error 13"},
	} {
		isLast(t, ahead, w[0], w[1])
		isLast(t, ahead+w[0]+"\n", "print z", is)
	}
	isSaid(t, "zone q 9", "error 12", "print q", "none", "zero q 9", "error 12", "print q", "none", "limit q x1-x0<1", "none", "print q", "none")
}

// TestP28_1Limits: limits of one word and more; each kind of word that is none.
func TestP28_1Limits(t *testing.T) {
	for _, w := range [][2]string{
		{"x1-x0<=5", "2: x1-x0<=5 x1-x2<=5"}, {"x1-x0<5", "2: x1-x0<5 x1-x2<5"}, {"x0-x1<=-5", "2: x0-x1<=-5"}, {"x0-x2<-5", "2: x0-x2<-5"}, {"x1-x2<=0", "2: x1-x2<=0"}, {"x2-x1<-268435456", "2: x0-x1<-268435456 x2-x1<-268435456"}, {"x2-x1<=268435456", "2: x2-x1<=268435456"}, {"x1-x0inf", "2:"}, {"x1-x0inf x2-x0inf", "2:"}, {"x0-x0<=0", "2:"}, {"x1-x1<0", "2: empty"}, {"x1-x0<=5 x1-x0<3", "2: x1-x0<3 x1-x2<3"}, {"x1-x0<=5 x2-x1<=1", "2: x1-x0<=5 x1-x2<=5 x2-x0<=6 x2-x1<=1"}, {"x1-x0<3 x0-x1<-3", "2: empty"}, {strings.Repeat("x1-x0<=5 ", 40), "2: x1-x0<=5 x1-x2<=5"},
	} {
		isSaid(t, "zone z 2", "ok", "limit z "+w[0], "ok", "print z", w[1])
	}
	for _, word := range []string{
		"x", "x1", "x1-", "x1-x", "x1-x0", "x1-x0<", "x1-x0<=", "x1-x0=", "x1-x0=5", "x1-x0==5", "x1-x0>5", "x1-x0>=5", "x1-x0!=5", "x1-x0<<5", "x1-x0=<5", "x1-x0<=5<", "x1-x0<=5,", "x1-x0<=x2", "x1-x05", "x1-x0-x2<=5", "x1-x0<=5x2-x0<=5", "<=5", "inf", "5", "x1<=5", "x<=5", "-x0<=5", "x-x0<=5", "x1-x<=5", "x1x0<=5", "x1+x0<=5", "x1--x0<=5", "1-x0<=5", "x1-0<=5", "1-0<=5", "X1-x0<=5", "x1-X0<=5", "y1-x0<=5", "x1-y0<=5", "xx1-x0<=5", "x1-xx0<=5", "x01-x0<=5", "x1-x00<=5", "x+1-x0<=5", "x1-x+0<=5", "x-0-x0<=5", "x1-x-0<=5", "x--1-x0<=5", "x-01-x0<=5", "x099999999999999999999-x0<=5", "x9999999999999999999a-x0<=5", "xa-x0<=5", "x1-xa<=5", "x1.0-x0<=5", "x1-x0<=05", "x1-x0<=+5", "x1-x0<=-0", "x1-x0<=5.0", "x1-x0<=1/2", "x1-x0<= 5", "x1-x0 <=5", "x1 -x0<=5", "x1- x0<=5", "x1-x0<=268435457", "x1-x0<-268435457", "x1-x0<=99999999999999999999", "x1-x0Inf", "x1-x0<inf", "x1-x0<=inf", "x1-x0infx", "x1-x0in", "x1-x0i", "xinf-x0<=5", "\tx1-x0<=5", "x1-x0<=5\t", "x1-x0<=5\r", "x1-x0≤5", "x１-x0<=5", "#", "",
	} {
		for _, line := range []string{"limit z " + word, "limit z x1-x0<=5 " + word, "limit z " + word + " x1-x0<=5"} {
			if strings.Trim(word, " ") == "" && strings.Contains(line, "<=5") {
				continue
			}
			isSaid(t, "zone z 2", "ok", line, "word", "print z", "2:")
		}
	}
}

// TestP28_1Has: valuations that are in, that are not, that are none, that are too long, too short.
func TestP28_1Has(t *testing.T) {
	ahead := "zero z 2\nup z\nlimit z x1-x0<3\n"
	for _, w := range [][2]string{
		{"0 0", "yes"}, {"5/2 5/2", "yes"}, {"299/100 299/100", "yes"}, {"3 3", "no"}, {"1 2", "no"}, {"1/2 1", "no"}, {"0", "no"}, {"5/2", "no"}, {"1 1 1", "no"}, {"0 0 0 0 0 0 0 0", "no"}, {"", "no"}, {"9223372036854775807 9223372036854775807", "no"},
		{"0 0 0 0 0 0 0 0 0", "word"}, {"a b", "word"}, {"-1 -1", "word"}, {"-1/2 1", "word"}, {"2/2 1", "word"}, {"4/2 2", "word"}, {"1/0 1", "word"}, {"0/1 0", "word"}, {"01 1", "word"}, {"+1 1", "word"}, {"-0 0", "word"}, {"1.5 1", "word"}, {"1,1", "word"}, {"1  1", "word"}, {" 1 1", "word"}, {"1 1 ", "word"}, {" ", "word"}, {"1\t1", "word"}, {"9223372036854775808 1", "word"}, {"1/9223372036854775808 1", "word"}, {"# x", "word"}, {"z", "word"},
	} {
		isLast(t, ahead, "has z "+w[0], w[1])
	}
}

// TestP28_1Long: a script of MaxScript bytes is done; of one more long is answered, and nothing else.
func TestP28_1Long(t *testing.T) {
	for _, w := range []struct{ begin, fill, answer string }{{"zone z 1\nprint z\n", "#", "ok\n1:\n"}, {"zone z 1\nprint z\n", "\n", "ok\n1:\n"}, {"hello ", "x", "word\n"}, {"", " ", ""}, {"zone z 1\n", "hello\n", ""}, {"net a " + stuck + "\nshow a\n", "@", "ok\nauto A {\n  loc a;\n}\nword\n"}} {
		script := (w.begin + strings.Repeat(w.fill, api.MaxScript))[:api.MaxScript]
		want := w.answer
		if w.fill == "hello\n" {
			want = "ok\n" + strings.Repeat("word\n", strings.Count(script, "hell"))
		}
		if got := Run(script); got != want {
			t.Errorf("%q: %.60q, not %.60q", w.begin, got, want)
		}
		for _, more := range []string{"\n", "#", " ", "zone z 1\n", script} {
			if got := Run(script + more); got != "long\n" {
				t.Errorf("%q: %.60q", w.begin, got)
			}
			if got := Run(more + script); got != "long\n" {
				t.Errorf("%q: %.60q", w.begin, got)
			}
		}
	}
}

// TestP28_1Model: scripts at random, held against patterns of lines.
func TestP28_1Model(t *testing.T) {
	r := source(1)
	counts := map[string]int{}
	for k := range 3000 {
		script := someScript(r, r.IntN(30), func(r *rand.Rand) string { return spoil(r, someLine(r)) }) + pick(r, "", "\n", "\n\n")
		if k%2 == 0 {
			script = "net a " + small + "\nnet b " + rich + "\nzone a 2\nzero b 2\nup b\n" + script
		}
		want := wantRun(script)
		if got := Run(script); got != want {
			t.Fatalf("%s\n---\n%s\n---\n%s", script, got, want)
		}
		for _, l := range strings.Split(want, "\n") {
			first, rest, _ := strings.Cut(l, " ")
			if counts[first]++; first == "error" {
				number, _, _ := strings.Cut(rest, " ")
				counts[number]++
			}
		}
	}
	for _, w := range []string{"ok", "yes", "no", "none", "word", "error", "check", "moves", "max", "auto", "2:", "3", "0", "6", "7", "12", "13", "90", "110", "111", "112", "120"} {
		if counts[w] < 10 {
			t.Error(w, counts[w], counts)
		}
	}
}
