package reduce

import (
	"cmp"
	"fmt"
	"math/rand/v2"
	"reflect"
	"slices"
	"strings"
	"testing"

	"gnomon/api"
	"gnomon/bound"
	"gnomon/dbm"
)

func source(seed uint64) *rand.Rand { return rand.New(rand.NewPCG(25, seed)) }

func atMost(v int) api.Bound { return api.Bound(2*v + 1) }

func lessThan(v int) api.Bound { return api.Bound(2 * v) }

const (
	most  = api.Bound(2*api.MaxBound + 1) // at most MaxBound: the greatest finite bound
	least = api.Bound(-2 * api.MaxBound)  // less than -MaxBound: the least one
)

// wrongBounds are those that may not be.
func wrongBounds() []api.Bound {
	return []api.Bound{-1 << 31, least - 2, least - 1, most + 1, most + 2, api.Inf - 1}
}

// limits are those of a text: x1-x0<=5 x2-x1<1.
func limits(t testing.TB, s string) []api.Limit {
	t.Helper()
	var l []api.Limit
	for _, term := range strings.Fields(s) {
		var x api.Limit
		var rest string
		if _, err := fmt.Sscanf(term, "x%d-x%d%s", &x.I, &x.J, &rest); err != nil {
			t.Fatal(term, err)
		}
		b, err := bound.Parse(rest)
		if err != api.OK {
			t.Fatal(term, err)
		}
		x.Bound = b
		l = append(l, x)
	}
	return l
}

// text is limits' text.
func text(l []api.Limit) string {
	var terms []string
	for _, x := range l {
		terms = append(terms, fmt.Sprintf("x%d-x%d%s", x.I, x.J, bound.Print(x.Bound)))
	}
	return strings.Join(terms, " ")
}

func must(t testing.TB) func(*dbm.Zone, api.Errno) *dbm.Zone {
	return func(z *dbm.Zone, err api.Errno) *dbm.Zone {
		t.Helper()
		if z == nil || err != api.OK {
			t.Fatal(z, err)
		}
		return z
	}
}

// made is the zone of a text of limits.
func made(t testing.TB, n int, s string) *dbm.Zone {
	t.Helper()
	return must(t)(dbm.Limits(n, limits(t, s)...))
}

func empty(t testing.TB, n int) *dbm.Zone {
	t.Helper()
	return must(t)(dbm.Limits(n, api.Limit{Bound: -8}))
}

// weight is a bound as a number, and whether it may be reached.
type weight struct {
	v       int64
	reached bool
	inf     bool
}

func weigh(b api.Bound) weight {
	switch {
	case b == api.Inf:
		return weight{inf: true}
	case b%2 == 0:
		return weight{v: int64(b) / 2}
	}
	return weight{v: (int64(b) - 1) / 2, reached: true}
}

func (w weight) plus(o weight) weight {
	if w.inf || o.inf {
		return weight{inf: true}
	}
	return weight{v: w.v + o.v, reached: w.reached && o.reached}
}

func (w weight) below(o weight) bool {
	if w.inf || o.inf {
		return !w.inf && o.inf
	}
	return w.v < o.v || w.v == o.v && !w.reached && o.reached
}

// table are the cells of a zone.
type table [][]weight

func tableOf(z *dbm.Zone) table {
	side := z.Dim() + 1
	var m table
	for i, b := range z.Cells() {
		if i%side == 0 {
			m = append(m, nil)
		}
		m[i/side] = append(m[i/side], weigh(b))
	}
	return m
}

var zero = weight{reached: true}

func (m table) hang(i, j int) bool { return !zero.below(m[i][j].plus(m[j][i])) }

// wantClasses are the classes by the words: of each clock that hangs together with none smaller all that hang together with it.
func wantClasses(z *dbm.Zone) [][]int {
	m := tableOf(z)
	var l [][]int
	for i := range m {
		var class []int
		for j := range m {
			if m.hang(i, j) {
				class = append(class, j)
			}
		}
		if class[0] == i {
			l = append(l, class)
		}
	}
	return l
}

// round is a class in the order in which its bounds go round it.
func (m table) round(class []int) []int {
	if class[0] != 0 {
		return class
	}
	var zeros, others []int
	for _, a := range class[1:] {
		if m[a][0] == zero && m[0][a] == zero {
			zeros = append(zeros, a)
		} else {
			others = append(others, a)
		}
	}
	return slices.Concat([]int{0}, zeros, others)
}

// asks tells whether a bound is asked for between heads of unlike classes, by the words.
func (m table) asks(classes [][]int, i, j int) bool {
	if m[i][j].inf {
		return false
	}
	for _, class := range classes {
		k := class[0]
		if k != i && k != j && !m[i][j].below(m[i][k].plus(m[k][j])) {
			return false
		}
		if k == j && i == 0 {
			for _, a := range class {
				if m[0][a] == zero {
					return false
				}
			}
		}
	}
	return true
}

// wantFew are the few bounds of a zone by the words.
func wantFew(z *dbm.Zone) []api.Limit {
	if z.Empty() {
		return []api.Limit{{}}
	}
	m, classes, cells := tableOf(z), wantClasses(z), z.Cells()
	var l []api.Limit
	put := func(i, j int) {
		l = append(l, api.Limit{I: i, J: j, Bound: cells[i*len(m)+j]})
	}
	for _, class := range classes {
		order := m.round(class)
		if len(order) < 2 {
			continue
		}
		for k := range order {
			i, j := order[k], order[(k+1)%len(order)]
			if i != 0 || m[i][j] != zero {
				put(i, j)
			}
		}
	}
	for _, from := range classes {
		for _, to := range classes {
			if from[0] != to[0] && m.asks(classes, from[0], to[0]) {
				put(from[0], to[0])
			}
		}
	}
	return l
}

// wantBytes are the bytes of n clocks and bounds, by the words.
func wantBytes(n int, l []api.Limit) []byte {
	b := []byte{byte(n), byte(len(l))}
	for _, x := range l {
		u := int64(x.Bound) + 1<<31
		b = append(b, byte(16*x.I+x.J), byte(u/(1<<24)), byte(u/(1<<16)%256), byte(u/(1<<8)%256), byte(u%256))
	}
	return b
}

// wantPlace is the place at which bytes are wrong, by the words; -1: they are right.
func wantPlace(b []byte) int {
	if len(b) == 0 || b[0] > 8 {
		return 0
	}
	if len(b) == 1 {
		return 1
	}
	if many := int(b[1]); len(b) < 2+5*many {
		return len(b)
	} else if len(b) > 2+5*many {
		return 2 + 5*many
	}
	var l []api.Limit
	for at := 2; at < len(b); at += 5 {
		u := int64(b[at+1])<<24 + int64(b[at+2])<<16 + int64(b[at+3])<<8 + int64(b[at+4]) - 1<<31
		if b[at]/16 > b[0] || b[at]%16 > b[0] || u != int64(api.Inf) && (u < int64(least) || u > int64(most)) {
			return at
		}
		l = append(l, api.Limit{I: int(b[at] / 16), J: int(b[at] % 16), Bound: api.Bound(u)})
	}
	z, err := dbm.Limits(int(b[0]), l...)
	if err != api.OK || !slices.Equal(wantFew(z), l) {
		return 2
	}
	return -1
}

// someZone is a zone of n clocks around a point of quarters up to top: many clocks are 0, many differences are settled; nil, if its cells may not be.
func someZone(r *rand.Rand, n, top int) *dbm.Zone {
	p := make([]int, n+1)
	parts := []int{1, 2, 4}[r.IntN(3)]
	for i := 1; i <= n; i++ {
		if r.IntN(4) > 0 {
			p[i] = r.IntN(top+1)*4 + r.IntN(parts)
		}
	}
	tight, loose := r.IntN(4), 1+r.IntN(6)
	var cells []api.Bound
	for i := range p {
		for j := range p {
			d := p[i] - p[j]
			b := lessThan((d + 4*api.MaxBound + 3) / 4)
			b -= lessThan(api.MaxBound)
			if d%4 == 0 {
				b = atMost(d / 4)
			}
			switch k := r.IntN(tight + loose); {
			case k >= tight+2:
				b = api.Inf
			case k == tight+1:
				b++ // at most that, or less than one more
			case k == tight:
				b += api.Bound(r.IntN(6))
			}
			if b != api.Inf && (b < least || b > most) {
				b = api.Inf
			}
			cells = append(cells, b)
		}
	}
	z, _ := dbm.Of(n, cells)
	return z
}

// eachZone hands zones at random to a function, of all numbers of clocks up to clocks; none of them is empty.
func eachZone(t testing.TB, seed uint64, clocks, many int, try func(r *rand.Rand, z *dbm.Zone)) {
	t.Helper()
	r := source(seed)
	for k := range many {
		top := []int{2, 5, 5, 100, api.MaxBound}[r.IntN(5)]
		z := someZone(r, k%(clocks+1), top)
		if z == nil {
			continue
		}
		if z.Empty() {
			t.Fatal("the zone has its point")
		}
		try(r, z)
	}
}

// eachSmall hands all zones of up to two clocks to a function that some few bounds make, empty ones too, each at least once.
func eachSmall(t testing.TB, try func(z *dbm.Zone)) {
	t.Helper()
	list := []api.Bound{lessThan(-1), atMost(-1), lessThan(0), atMost(0), lessThan(1), atMost(2), api.Inf}
	seen := map[string]bool{}
	for n := range 3 {
		side := n + 1
		count := 1
		for range side*side - side {
			count *= len(list)
		}
		for k := range count {
			cells := slices.Repeat([]api.Bound{api.Inf}, side*side)
			for at := range cells {
				if at/side != at%side {
					cells[at] = list[k%len(list)]
					k /= len(list)
				}
			}
			z := must(t)(dbm.Of(n, cells))
			if key := string(z.Key()); !seen[key] {
				seen[key] = true
				try(z)
			}
		}
	}
	if len(seen) < 800 {
		t.Error(len(seen))
	}
}

// points are all valuations of n clocks in parts of 1/den up to top, in those parts, the number 0 ahead of them.
func points(n, den, top int) [][]int64 {
	list := [][]int64{{0}}
	for range n {
		var longer [][]int64
		for _, p := range list {
			for v := range int64(top*den + 1) {
				longer = append(longer, append(slices.Clone(p), v))
			}
		}
		list = longer
	}
	return list
}

// keeps tells whether a point in parts of 1/den keeps a bound.
func keeps(p []int64, den int64, x api.Limit) bool {
	w, d := weigh(x.Bound), p[x.I]-p[x.J]
	return w.inf || d < w.v*den || d == w.v*den && w.reached
}

func keepsAll(p []int64, den int64, l []api.Limit) bool {
	return !slices.ContainsFunc(l, func(x api.Limit) bool { return !keeps(p, den, x) })
}

// finite are the finite cells of a zone, but those on the diagonal and those that hold anyway.
func finite(z *dbm.Zone) []api.Limit {
	var l []api.Limit
	side := z.Dim() + 1
	for at, b := range z.Cells() {
		if x := (api.Limit{I: at / side, J: at % side, Bound: b}); x.I != x.J && b != api.Inf && (x.I != 0 || b != atMost(0)) {
			l = append(l, x)
		}
	}
	return l
}

// some tells whether a choice of so many of a list is such.
func some(l []api.Limit, many int, such func([]api.Limit) bool) bool {
	var chosen []api.Limit
	var from func(at int) bool
	from = func(at int) bool {
		if len(chosen) == many {
			return such(chosen)
		}
		for i := at; i <= len(l)-(many-len(chosen)); i++ {
			chosen = append(chosen, l[i])
			if from(i + 1) {
				return true
			}
			chosen = chosen[:len(chosen)-1]
		}
		return false
	}
	return many >= 0 && many <= len(l) && from(0)
}

// memory is a piece of memory that a list has, its spare room included.
type memory struct{ from, to uintptr }

// memories are those of all lists of a value.
func memories(v reflect.Value) []memory {
	var l []memory
	if v.Kind() == reflect.Slice {
		if v.Cap() > 0 {
			l = append(l, memory{v.Pointer(), v.Pointer() + uintptr(v.Cap())*v.Type().Elem().Size()})
		}
		for i := range v.Len() {
			l = append(l, memories(v.Index(i))...)
		}
	}
	return l
}

// shared tells whether two of the lists of some values lie in one another.
func shared(values ...any) bool {
	var l []memory
	for _, v := range values {
		l = append(l, memories(reflect.ValueOf(v))...)
	}
	slices.SortFunc(l, func(a, b memory) int { return cmp.Compare(a.from, b.from) })
	for i := 1; i < len(l); i++ {
		if l[i].from < l[i-1].to {
			return true
		}
	}
	return false
}
