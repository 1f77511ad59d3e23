package shell

import (
	"fmt"
	"math/big"
	"math/rand/v2"
	"regexp"
	"strconv"
	"strings"
	"testing"

	"gnomon/active"
	"gnomon/api"
	"gnomon/bound"
	"gnomon/check"
	"gnomon/dbm"
	"gnomon/extra"
	"gnomon/lu"
	"gnomon/moves"
	"gnomon/net"
	"gnomon/ops"
	"gnomon/parse"
	"gnomon/point"
	"gnomon/query"
	"gnomon/run"
	"gnomon/state"
)

func source(seed uint64) *rand.Rand { return rand.New(rand.NewPCG(28, seed)) }

const small = "clock x; auto A { loc a inv x <= 5; loc b; edge a -> b when x >= 3 do x := 0; }"

// rich has something of everything, in one line.
const rich = "clock x, y; int n in 0 .. 3 := 0; int m in -9 .. 9 := 2; chan c, d; " +
	"auto A { loc a inv x <= 5; loc b inv y < 7 && x >= 1; loc k committed; " +
	"edge a -> b when x >= 3 && n < 3 sync c! do x := 1, n := n + 1, y := 2; edge a -> k when n == 0 && x > 1 do m := 0 - m, x := 7; edge k -> a do y := 0; edge b -> a when y == 4 sync d!; } " +
	"auto B { loc a; loc u urgent inv y <= 6; loc b inv x <= 9; " +
	"edge a -> u when y < 4 && m > 0 sync c? do m := m * 2, x := 3; edge u -> b when x >= 2; edge b -> a sync d? do y := 5, y := 1; }"

// unchecked is a network that parse takes, and check does not.
const unchecked = "clock x; auto A { loc a inv x <= -1; loc b; edge a -> b; }"

// stuck is a network without a move, and without a clock.
const stuck = "auto A { loc a; }"

// isSaid holds the answers of a script's lines to what they must be: a line, its answer (without the last line feed; nothing, if it is passed over), the next line, and so on.
func isSaid(t testing.TB, pairs ...string) {
	t.Helper()
	script, want := "", ""
	for i := 0; i < len(pairs); i += 2 {
		script += pairs[i] + "\n"
		if pairs[i+1] != "" {
			want += pairs[i+1] + "\n"
		}
		if got := Run(script); got != want {
			t.Fatalf("%q: %q, not %q", pairs[i], got, want)
		}
	}
}

// isLast holds the answer of a line behind some others to what it must be.
func isLast(t testing.TB, ahead, last, want string) {
	t.Helper()
	got, ok := strings.CutPrefix(Run(ahead+last+"\n"), Run(ahead))
	if want != "" {
		want += "\n"
	}
	if !ok || got != want {
		t.Errorf("%q: %q, not %q", last, got, want)
	}
}

// model does scripts by the words of the chapter: each line is held against a pattern of its kind.
type model struct {
	nets  map[string]api.Net
	zones map[string]*dbm.Zone
}

const (
	namePattern  = `([a-z]{1,8})`
	numPattern   = `(0|[1-9][0-9]*)`
	textPattern  = ` (.*[^ ].*)`
	maybePattern = `(?: (.*))?`
	limitPattern = `x(0|-?[1-9][0-9]*)-x(0|-?[1-9][0-9]*)(<=(?:0|-?[1-9][0-9]*)|<(?:0|-?[1-9][0-9]*)|inf)`
)

// pattern is what all lines of one kind are like: words with blanks between and at both ends.
func pattern(first string, parts ...string) *regexp.Regexp {
	text := `^ *` + first
	for i, p := range parts {
		if p == textPattern || p == maybePattern {
			return regexp.MustCompile(text + strings.Join(parts[i:], "") + `$`)
		}
		text += ` +` + p
	}
	return regexp.MustCompile(text + ` *$`)
}

var patterns = map[string]*regexp.Regexp{
	"net": pattern("net", namePattern, textPattern), "show": pattern("show", namePattern), "max": pattern("max", namePattern, maybePattern), "ask": pattern("ask", namePattern, textPattern), "plan": pattern("plan", namePattern, numPattern, textPattern), "moves": pattern("moves", namePattern),
	"zone": pattern("zone", namePattern, numPattern), "zero": pattern("zero", namePattern, numPattern), "up": pattern("up", namePattern), "down": pattern("down", namePattern), "reset": pattern("reset", namePattern, numPattern, numPattern), "free": pattern("free", namePattern, numPattern),
	"limit": regexp.MustCompile(`^ *limit +` + namePattern + `((?: +` + limitPattern + `)+) *$`), "widen": regexp.MustCompile(`^ *widen +` + namePattern + `((?: +` + numPattern + `)*) *$`),
	"print": pattern("print", namePattern), "point": pattern("point", namePattern), "has": pattern("has", namePattern, maybePattern), "includes": pattern("includes", namePattern, namePattern), "equal": pattern("equal", namePattern, namePattern),
}

// numbersOf are numbers below 2^31; false: one is not.
func numbersOf(words ...string) ([]int, bool) {
	var l []int
	for _, w := range words {
		n, err := strconv.ParseUint(w, 10, 31)
		if err != nil {
			return nil, false
		}
		l = append(l, int(n))
	}
	return l, true
}

// limitsOf are the limits of words that keep the pattern; false: a bound of them may not be.
func limitsOf(words ...string) ([]api.Limit, bool) {
	var l []api.Limit
	for _, w := range words {
		m := regexp.MustCompile(`^` + limitPattern + `$`).FindStringSubmatch(w)
		b, err := bound.Parse(m[3])
		if err != api.OK {
			return nil, false
		}
		clock := func(s string) int {
			n, _ := new(big.Int).SetString(s, 10)
			if n.IsInt64() {
				return int(n.Int64())
			}
			return 1 << 40
		}
		l = append(l, api.Limit{I: clock(m[1]), J: clock(m[2]), Bound: b})
	}
	return l, true
}

// wantRun is what a script is answered.
func wantRun(script string) string {
	if len(script) > api.MaxScript {
		return "long\n"
	}
	m := model{map[string]api.Net{}, map[string]*dbm.Zone{}}
	l := strings.Split(script, "\n")
	if l[len(l)-1] == "" {
		l = l[:len(l)-1]
	}
	var answers []string
	for _, s := range l {
		if w := strings.Trim(s, " "); w != "" && w[0] != '#' {
			answers = append(answers, m.line(s))
		}
	}
	return strings.Join(answers, "")
}

// line is the answer of a line that is not passed over.
func (m model) line(s string) string {
	first, _, _ := strings.Cut(strings.TrimLeft(s, " "), " ")
	p := patterns[first]
	if p == nil {
		return "word\n"
	}
	l := p.FindStringSubmatch(s)
	if l == nil {
		return "word\n"
	}
	switch first {
	case "net", "show", "max", "ask", "plan", "moves":
		return m.network(first, l[1:])
	}
	return m.zone(first, l[1:])
}

func (m model) network(first string, l []string) string {
	number := 0
	if first == "plan" {
		n, ok := numbersOf(l[1])
		if !ok {
			return "word\n"
		}
		number = n[0]
	}
	n, some := m.nets[l[0]]
	if !some && first != "net" {
		return "none\n"
	}
	switch first {
	case "net":
		n, err, at := parse.Net(l[1])
		if err != api.OK {
			return fmt.Sprintln("error", int(err), at)
		}
		m.nets[l[0]] = n
		if err := check.Net(n); err != api.OK {
			return fmt.Sprintln("check", int(err))
		}
		return "ok\n"
	case "show":
		text, err := net.Print(n)
		if err != api.OK {
			panic(err)
		}
		return text
	case "max":
		return wantMax(n, l[1])
	case "moves":
		s, _ := state.First(n)
		text, _ := moves.Print(n, moves.Enabled(n, s)...)
		if text == "" {
			return "none\n"
		}
		return "moves " + text + "\n"
	case "ask":
		return wantTold(n, l[1], 0, false)
	}
	return wantTold(n, l[2], number, true)
}

func wantMax(n api.Net, text string) string {
	var goals []api.Goal
	if strings.Trim(text, " ") != "" {
		g, err, at := parse.Goal(n, text)
		if err != api.OK {
			return fmt.Sprintln("error", int(err), at)
		}
		if err := check.Goal(n, g); err != api.OK {
			return fmt.Sprintln("error", int(err))
		}
		goals = append(goals, g)
	}
	if err := check.Net(n); err != api.OK {
		return fmt.Sprintln("error", int(err))
	}
	answer := "max"
	for _, k := range check.Max(n, goals...) {
		answer += fmt.Sprint(" ", k)
	}
	return answer + "\n"
}

func wantTold(n api.Net, text string, plan int, last bool) string {
	q, err, at := query.Parse(n, text)
	if err != api.OK {
		return fmt.Sprintln("error", int(err), at)
	}
	way := query.Way{Last: last}
	if plan == 1 {
		way.Plan, err = lu.Plan(n, q.Goal)
	}
	if plan == 2 {
		way.Plan, err = active.Plan(n, q.Goal)
	}
	if err == api.OK {
		err = check.Goal(n, q.Goal)
	}
	if err == api.OK && plan > 2 {
		err = api.ErrForm
	}
	if err != api.OK {
		return fmt.Sprintln("error", int(err))
	}
	told := query.Ask(n, q, way)[0]
	word := map[bool]string{true: "yes", false: "no"}[told.Holds]
	if told.Verdict == api.Unknown {
		word = "unknown"
	}
	answer := fmt.Sprintln(word, told.Stored, told.Pops)
	if told.Verdict == api.Reachable {
		text, err := run.Print(n, told.Run)
		if err != api.OK {
			panic(err)
		}
		answer += text
	}
	return answer
}

func (m model) zone(first string, l []string) string {
	var numbers []int
	var limits []api.Limit
	var v []api.Rat
	ok := true
	switch first {
	case "zone", "zero", "reset", "free":
		numbers, ok = numbersOf(l[1:]...)
	case "widen":
		numbers, ok = numbersOf(strings.Fields(l[1])...)
	case "limit":
		limits, ok = limitsOf(strings.Fields(l[1])...)
	case "has":
		var err api.Errno
		v, err = point.Parse(l[1])
		ok = err == api.OK
	}
	if !ok {
		return "word\n"
	}
	z := m.zones[l[0]]
	var o *dbm.Zone
	if first == "includes" || first == "equal" {
		o = m.zones[l[1]]
	}
	if z == nil && first != "zone" && first != "zero" || o == nil && (first == "includes" || first == "equal") {
		return "none\n"
	}
	yes := map[bool]string{true: "yes\n", false: "no\n"}
	switch first {
	case "print":
		return z.Print() + "\n"
	case "point":
		if z.Empty() {
			return "none\n"
		}
		least, _ := point.Least(z)
		return point.Print(least) + "\n"
	case "has":
		return yes[point.In(z, v)]
	case "includes":
		return yes[z.Includes(o)]
	case "equal":
		return yes[z.Equal(o)]
	}
	made, err := wantMade(first, z, numbers, limits)
	if err != api.OK {
		return fmt.Sprintln("error", int(err))
	}
	m.zones[l[0]] = made
	return "ok\n"
}

func wantMade(first string, z *dbm.Zone, numbers []int, limits []api.Limit) (*dbm.Zone, api.Errno) {
	switch first {
	case "zone":
		return dbm.Universe(numbers[0])
	case "zero":
		return dbm.Zero(numbers[0])
	case "up":
		return ops.Up(z)
	case "down":
		return ops.Down(z)
	case "reset":
		return ops.Reset(z, numbers[0], numbers[1])
	case "free":
		return ops.Free(z, numbers[0])
	case "limit":
		return ops.Constrain(z, limits...)
	}
	return extra.Max(z, numbers)
}

// askers are first words of lines that change nothing.
func askers() []string {
	return []string{"show", "max", "ask", "plan", "moves", "print", "point", "has", "includes", "equal"}
}

func pick[T any](r *rand.Rand, l ...T) T { return l[r.IntN(len(l))] }

func someName(r *rand.Rand) string { return pick(r, "a", "a", "a", "b", "b", "z", "longname") }

func someGoal(r *rand.Rand) string {
	return pick(r, "A.b", "A.a", "A.b && x > 7", "A.a && x > 5", "true", "x == 3", "A.k && m < 0", "B.b && n == 2 || A.b && y > 3", "x > -1", "q > 3", "A.q", "A.b &&", "A.b = 3", "  A.b  ", "x - y < 3", "A.a && x >= 5 || A.b && x < 2")
}

func someNumber(r *rand.Rand) string {
	return pick(r, "0", "1", "1", "2", "2", "3", "5", "8", "9", "1048576", "1048577", "2147483647", "2147483648", "-1", "+1", "01", "x", "1.5")
}

func someLimit(r *rand.Rand) string {
	if r.IntN(12) == 0 {
		return pick(r, "x1-x0", "x1-x0=5", "x01-x0<=5", "x1-x0<=05", "y1-x0<=5", "x1-x0inf", "x9-x0<=5", "x-1-x0<=5", "x1-x99999999999999999999<2", "x1-x0<=268435456", "x1-x0<=268435457", "x1-x0>=5", "x1x0<5", "x1-x0<=-0")
	}
	return fmt.Sprintf("x%d-x%d%s%d", r.IntN(3), r.IntN(3), pick(r, "<", "<="), r.IntN(14)-4)
}

func some(r *rand.Rand, least, most int, one func(r *rand.Rand) string) string {
	var l []string
	for range least + r.IntN(most-least+1) {
		l = append(l, one(r))
	}
	return strings.Join(l, " ")
}

// someAsker is a line that changes nothing.
func someAsker(r *rand.Rand) string {
	name := someName(r)
	switch w := pick(r, askers()...); w {
	case "max":
		return pick(r, "max "+name, "max "+name+" ", "max "+name+" "+someGoal(r))
	case "ask":
		return "ask " + name + " " + pick(r, "reach ", "never ", "") + someGoal(r)
	case "plan":
		return "plan " + name + " " + someNumber(r) + " " + pick(r, "reach ", "never ", "reach ", "never ", "") + someGoal(r)
	case "has":
		return "has " + name + " " + pick(r, "0 0", "1/2 3", "5/2 5/2", "4", "", "1 1 1", "2/2 1", "-1 1", "0 ", " 0", "3 4")
	case "includes", "equal":
		return w + " " + name + " " + someName(r)
	default:
		return w + " " + name
	}
}

// someLine is a line at random: mostly one that may be.
func someLine(r *rand.Rand) string {
	name := someName(r)
	switch w := pick(r, "net", "zone", "zero", "up", "down", "reset", "free", "limit", "limit", "limit", "widen", "", "", "", "", ""); w {
	case "net":
		return "net " + name + " " + pick(r, small, small, rich, stuck, unchecked, "clock x;", "auto A { loc a; } @", strings.Replace(small, "3", "4", 1), "  "+small+"  ")
	case "zone", "zero":
		return w + " " + name + " " + pick(r, "2", "2", "2", someNumber(r))
	case "up", "down":
		return w + " " + name
	case "reset":
		return "reset " + name + " " + someNumber(r) + " " + someNumber(r)
	case "free":
		return "free " + name + " " + someNumber(r)
	case "limit":
		return "limit " + name + " " + some(r, 1, 3, someLimit)
	case "widen":
		return "widen " + name + " " + pick(r, "2 3", "0 5", some(r, 0, 3, someNumber))
	}
	if r.IntN(10) == 0 {
		return pick(r, "", " ", "# net a b", "  # x", "hello", "Net a "+small, "#", "net", "up", "\t", "up\ta", "netz a "+small, "ok", "word")
	}
	return someAsker(r)
}

// spoil changes a line in a place, sometimes.
func spoil(r *rand.Rand, s string) string {
	for r.IntN(5) == 0 && s != "" {
		i := r.IntN(len(s))
		s = s[:i] + pick(r, " ", "  ", "", "", "a", "0", "-", "#", "\t", "\r", "\x00", "\xff", "Z") + s[i+r.IntN(2):]
	}
	return s
}

// someScript is a script of some lines that are at most so long together; without a line feed at its end.
func someScript(r *rand.Rand, many int, line func(r *rand.Rand) string) string {
	var l []string
	for range many {
		l = append(l, line(r))
	}
	return strings.Join(l, "\n")
}
