package shell

import (
	"strings"
	"testing"
)

// TestTenExamples: those of DOC.md, as a script says them.
func TestTenExamples(t *testing.T) {
	isSaid(t,
		// 1, 2, 4: what DOC.md's network comes to, and when.
		"net a "+small, "ok", "ask a reach A.b", "yes 2 2\n3 A.0\n0 end", "ask a reach A.b && x > 7", "yes 2 2\n3 A.0\n22/3 end", "ask a reach A.a && x > 5", "no 2 2", "ask a reach true", "yes 1 1\n0 end",
		// 3: the invariant holds time at 5.
		"net a "+strings.Replace(small, "x >= 3", "x > 5", 1), "ok", "ask a reach A.b", "no 1 1",
		// 5: two clocks are not held against one another.
		"net a clock x, y; auto A { loc a; edge a -> a when x - y < 3; }", "error 120 47",
		// 6, 7: zones.
		"zero z 2", "ok", "print z", "2: x1-x0<=0 x1-x2<=0 x2-x0<=0 x2-x1<=0", "up z", "ok", "print z", "2: x1-x2<=0 x2-x1<=0", "limit z x1-x0<3", "ok", "print z", "2: x1-x0<3 x1-x2<=0 x2-x0<3 x2-x1<=0", "limit z x1-x0<=3", "ok", "print z", "2: x1-x0<3 x1-x2<=0 x2-x0<3 x2-x1<=0",
		// 8: one sends, one takes; a third takes too.
		"net c chan c; auto A { loc a; edge a -> a sync c!; } auto B { loc a; edge a -> a sync c?; }", "ok", "moves c", "moves A.0 B.0", "net c chan c; auto A { loc a; edge a -> a sync c!; } auto B { loc a; edge a -> a sync c?; } auto C { loc a; edge a -> a sync c?; }", "ok", "moves c", "moves A.0 B.0, A.0 C.0",
		// 9: nobody else moves, and no time passes.
		"net k clock x; auto A { loc a; loc b; edge a -> b; } auto B { loc a committed; loc b; edge a -> b; }", "ok", "moves k", "moves B.0", "ask k never B.a && x > 0 || B.a && A.b", "yes 3 3",
		// 10: four values, and no more.
		"net n int n in 0 .. 3 := 0; auto A { loc a; edge a -> a do n := n + 1; }", "ok", "ask n reach n == 3", "yes 4 4\n0 A.0\n0 A.0\n0 A.0\n0 end", "ask n never n > 3", "yes 4 4",
	)
}
