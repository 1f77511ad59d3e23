package plans

import (
	"math"
	"reflect"
	"testing"

	"gnomon/active"
	"gnomon/api"
	"gnomon/lu"
	"gnomon/parse"
)

func TestOf(t *testing.T) {
	n, err, at := parse.Net("clock x, y; auto A { loc a inv x <= 5; loc b; edge a -> b when x >= 3 do x := 0; }")
	if err != api.OK {
		t.Fatal(err, at)
	}
	for _, text := range []string{"A.b", "A.b && x > 7", "y < 9 || x == 2"} {
		g, err, at := parse.Goal(n, text)
		if err != api.OK {
			t.Fatal(err, at)
		}
		both, _ := lu.Plan(n, g)
		kept, _ := active.Plan(n, g)
		for number, want := range []api.Plan{{}, both, kept} {
			if p, err := Of(number, n, g); err != api.OK || !reflect.DeepEqual(p, want) {
				t.Error(text, number, p, err)
			}
		}
		if reflect.DeepEqual(both, kept) {
			t.Error(text, "tells no difference")
		}
	}
}

func TestOfWrong(t *testing.T) {
	n, err, at := parse.Net("clock x; auto A { loc a; }")
	if err != api.OK {
		t.Fatal(err, at)
	}
	wrong := api.Goal{{Guards: []api.Guard{{Clock: 1, Cmp: api.Lt, N: -1}}}}
	for _, number := range []int{math.MinInt, -1, 3, 4, 256, 1 << 32, math.MaxInt} {
		if p, err := Of(number, n, nil); err != api.ErrForm || p.Lo != nil || p.Up != nil {
			t.Error(number, p, err)
		}
	}
	// What is wrong with the network or the goal comes first.
	for _, number := range []int{-1, 0, 1, 2, 3} {
		if p, err := Of(number, n, wrong); err != api.ErrConst || p.Lo != nil || p.Up != nil {
			t.Error(number, p, err)
		}
		if p, err := Of(number, api.Net{}, wrong); err != api.ErrRange || p.Lo != nil || p.Up != nil {
			t.Error(number, p, err)
		}
	}
}
