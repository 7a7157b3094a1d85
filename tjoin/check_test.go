package tjoin_test

import (
	"math"
	"slices"
	"testing"

	"filigree/api"
	"filigree/tjoin"
)

// isKind fails the test unless both are the same kind.
func isKind(t *testing.T, what string, got, want api.Kind) {
	t.Helper()
	if got != want {
		t.Errorf("%s: kind %d, not %d", what, int(got), int(want))
	}
}

// multigraphs hands out every multigraph of n vertices and at most so many edges of these weights, with ends and edges in every
// order.
func multigraphs(n, most int, weights []int64, with func(m api.Graph)) {
	var list []api.Edge
	var choose func()
	choose = func() {
		with(api.Graph{N: n, E: slices.Clone(list)})
		if len(list) == most {
			return
		}
		for u := range n {
			for v := range n {
				for _, w := range weights {
					list = append(list, api.Edge{U: u, V: v, W: w})
					choose()
					list = list[:len(list)-1]
				}
			}
		}
	}
	choose()
}

// P1401: kinds told by hand.
func TestCheckTold(t *testing.T) {
	m := multi(5, [3]int64{0, 1, 2}, [3]int64{1, 2, 3}, [3]int64{0, 2, 9}, [3]int64{3, 3, 0}, [3]int64{3, 4, 0})
	for _, c := range []struct {
		what  string
		t, in []int
		want  api.Kind
	}{
		{"nothing", nil, nil, api.OK},
		{"empty lists", []int{}, []int{}, api.OK},
		{"a way", []int{0, 2}, []int{0, 1}, api.OK},
		{"a dearer way", []int{0, 2}, []int{2}, api.OK},
		{"a ring", nil, []int{0, 1, 2}, api.OK},
		{"a loop", nil, []int{3}, api.OK},
		{"a way and a loop", []int{0, 2}, []int{0, 1, 3}, api.OK},
		{"two components", []int{0, 1, 3, 4}, []int{0, 4}, api.OK},
		{"t falls", []int{2, 0}, []int{0, 1}, api.BadArg},
		{"t has one twice", []int{0, 0, 2}, []int{0, 1}, api.BadArg},
		{"t has one twice, at its end", []int{0, 2, 2}, []int{0, 1}, api.BadArg},
		{"t of one twice", []int{1, 1}, nil, api.BadArg},
		{"t below 0", []int{-1, 2}, []int{0, 1}, api.BadArg},
		{"t beyond", []int{0, 5}, []int{0, 1}, api.BadArg},
		{"the least t", []int{math.MinInt, 0}, nil, api.BadArg},
		{"the greatest t", []int{0, math.MaxInt}, nil, api.BadArg},
		{"t falls at its end", []int{0, 1, 3, 2}, []int{0, 4}, api.BadArg},
		{"in falls", []int{0, 2}, []int{1, 0}, api.BadWitness},
		{"in has one twice", []int{0, 2}, []int{0, 0, 1}, api.BadWitness},
		{"in has a loop twice", nil, []int{3, 3}, api.BadWitness},
		{"in has one thrice", []int{0, 2}, []int{2, 2, 2}, api.BadWitness},
		{"in below 0", []int{0, 2}, []int{-1, 2}, api.BadWitness},
		{"in beyond", []int{0, 2}, []int{2, 5}, api.BadWitness},
		{"the least in", []int{0, 2}, []int{math.MinInt, 2}, api.BadWitness},
		{"the greatest in", []int{0, 2}, []int{2, math.MaxInt}, api.BadWitness},
		{"others", []int{0, 2}, []int{0}, api.BadWitness},
		{"one more", []int{0, 1, 2}, []int{0, 1}, api.BadWitness},
		{"one less", []int{0}, []int{0, 1}, api.BadWitness},
		{"none of two", nil, []int{0, 1}, api.BadWitness},
		{"two of none", []int{0, 2}, nil, api.BadWitness},
		{"a loop's vertex", []int{3}, []int{3}, api.BadWitness},
		{"t falls, and in", []int{2, 0}, []int{1, 0}, api.BadArg},
		{"t beyond, and in", []int{0, 5}, []int{0, 5}, api.BadArg},
	} {
		isKind(t, c.what, tjoin.Check(m, c.t, c.in), c.want)
	}
}

// P1401: all lists against the words, on all multigraphs of few vertices and edges.
func TestCheckOfAll(t *testing.T) {
	counts := map[api.Kind]int{}
	for n := range 4 {
		var lists [][]int
		places(3, -1, n, func(list []int) { lists = append(lists, slices.Clone(list)) })
		multigraphs(n, 2, []int64{1}, func(m api.Graph) {
			for _, list := range lists {
				places(3, -1, len(m.E), func(in []int) {
					want := checkOf(m, list, in)
					counts[want]++
					if k := tjoin.Check(m, list, in); k != want {
						t.Fatalf("Check(%v, %v, %v): kind %d, not %d", m, list, in, int(k), int(want))
					}
				})
			}
		})
	}
	for _, k := range []api.Kind{api.OK, api.BadArg, api.BadWitness} {
		if counts[k] == 0 {
			t.Errorf("no lists of kind %d", int(k))
		}
	}
}

// P1401: drawn sets of edges with their odd vertices, whole and spoilt, of multigraphs of many kinds.
func TestCheckOfMany(t *testing.T) {
	d := dice(14011)
	for _, s := range samples(14) {
		in := d.some(len(s.m.E), 2)
		odd := oddOf(s.m, in)
		isKind(t, s.what, tjoin.Check(s.m, odd, in), api.OK)
		for v := range s.m.N {
			isKind(t, s.what+", another t", tjoin.Check(s.m, differ(odd, []int{v}), in), api.BadWitness)
		}
		for place, e := range s.m.E {
			want := api.BadWitness
			if e.U == e.V {
				want = api.OK
			}
			isKind(t, s.what+", another in", tjoin.Check(s.m, odd, differ(in, []int{place})), want)
		}
		if len(in) > 1 {
			i := d.below(len(in) - 1)
			in[i], in[i+1] = in[i+1], in[i]
			isKind(t, s.what+", in falls", tjoin.Check(s.m, odd, in), api.BadWitness)
		}
		if len(odd) > 1 {
			i := d.below(len(odd) - 1)
			odd[i], odd[i+1] = odd[i+1], odd[i]
			isKind(t, s.what+", t falls", tjoin.Check(s.m, odd, in), api.BadArg)
		}
	}
}
