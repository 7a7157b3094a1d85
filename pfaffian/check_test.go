package pfaffian_test

import (
	"fmt"
	"slices"
	"testing"

	"filigree/api"
	"filigree/parts"
)

// kindOf is what the words say of a direction with as many truths as there are edges.
func kindOf(g api.Graph, r [][]int, along []bool) api.Kind {
	if isGood(g, r, along) {
		return api.OK
	}
	return api.BadWitness
}

// truthsOf is the bits of a number as n truths.
func truthsOf(n, number int) []bool {
	list := make([]bool, n)
	for i := range list {
		list[i] = number>>i&1 == 1
	}
	return list
}

// turned is a direction in which these edges go the other way.
func turned(along []bool, places ...int) []bool {
	other := slices.Clone(along)
	for _, place := range places {
		other[place] = !other[place]
	}
	return other
}

// P1701: directions told by hand.
func TestCheckTold(t *testing.T) {
	const no, yes = false, true
	square := ring(4) // edges 0-1, 0-3, 1-2, 2-3
	bar := [][]int{{1, 2, 3}, {0, 2}, {0, 1, 3}, {0, 2}}
	apart := beside(square, square)
	for _, c := range []struct {
		what  string
		r     [][]int
		along []bool
		want  api.Kind
	}{
		{"no vertex", nil, nil, api.OK},
		{"no vertex, an empty list", [][]int{}, []bool{}, api.OK},
		{"no edge", alone(3), nil, api.OK},
		{"no edge, a truth", alone(3), []bool{yes}, api.BadWitness},
		{"no vertex, a truth", nil, []bool{no}, api.BadWitness},
		{"an edge", way(2), []bool{yes}, api.OK},
		{"an edge, back", way(2), []bool{no}, api.OK},
		{"an edge, no truth", way(2), nil, api.BadWitness},
		{"an edge, two truths", way(2), []bool{yes, yes}, api.BadWitness},
		{"a way, its face is not odd", way(3), []bool{yes, no}, api.OK},
		{"a triangle: one of two faces is odd", ring(3), []bool{yes, yes, yes}, api.OK},
		{"a triangle, around", ring(3), []bool{yes, no, yes}, api.OK},
		{"a square, all along: both are odd", square, []bool{yes, yes, yes, yes}, api.OK},
		{"a square, around: both are even", square, []bool{yes, no, yes, yes}, api.BadWitness},
		{"a square, one turned", square, []bool{no, yes, yes, yes}, api.BadWitness},
		{"a square, another turned", square, []bool{yes, yes, yes, no}, api.BadWitness},
		{"a square, two turned: both are odd", square, []bool{no, no, yes, yes}, api.OK},
		{"a square with a bar, its four sides around", bar, []bool{yes, yes, no, yes, yes}, api.BadWitness},
		{"a square with a bar, one odd face, the outer one", bar, []bool{yes, no, yes, yes, yes}, api.BadWitness},
		{"a square with a bar, all odd", bar, []bool{yes, yes, yes, yes, yes}, api.OK},
		{"two squares apart, both good", apart, slices.Repeat([]bool{yes}, 8), api.OK},
		{"two squares apart, the first is not", apart, []bool{no, yes, yes, yes, yes, yes, yes, yes}, api.BadWitness},
		{"two squares apart, the last is not", apart, []bool{yes, yes, yes, yes, yes, yes, no, yes}, api.BadWitness},
		{"two squares apart, none is", apart, []bool{no, yes, yes, yes, no, yes, yes, yes}, api.BadWitness},
	} {
		isChecked(t, c.what, of(c.r), c.r, c.along, c.want)
	}
}

// P1701: all directions of all graphs of at most 4 vertices, and of those of 5 that have at most 7 edges.
func TestCheckOfAll(t *testing.T) {
	counts := map[api.Kind]int{}
	for n := range 6 {
		smallSystems(n, func(g api.Graph, r [][]int) {
			if len(g.E) > 7 {
				return
			}
			for number := range 1 << len(g.E) {
				along := truthsOf(len(g.E), number)
				want := kindOf(g, r, along)
				isChecked(t, "small", g, r, along, want)
				counts[want]++
			}
		})
	}
	if counts[api.OK] == 0 || counts[api.BadWitness] == 0 || len(counts) != 2 {
		t.Errorf("kinds: %v", counts)
	}
}

// P1701: any directions, and such as are good but for a few edges, of graphs of many kinds.
func TestCheckOfMany(t *testing.T) {
	d := dice(1710)
	counts := map[api.Kind]int{}
	for _, s := range samples(20) {
		m := len(s.g.E)
		along := isOriented(t, s.what, s.g, s.r)
		for i := range 6 {
			other := d.truths(m)
			if i > 0 && m > 0 {
				other = slices.Clone(along)
				for range 1 + d.below(i) {
					place := d.below(m)
					other[place] = !other[place]
				}
			}
			want := kindOf(s.g, s.r, other)
			isChecked(t, s.what, s.g, s.r, other, want)
			counts[want]++
		}
	}
	if counts[api.OK] < 100 || counts[api.BadWitness] < 100 || len(counts) != 2 {
		t.Errorf("kinds: %v", counts)
	}
}

// P1701: one edge of a good direction turned. A bridge's face goes over it both ways, so that nothing changes. Any other edge has two
// faces beside it: then both are as they were not, and where all were odd two are not.
func TestOneEdgeTurned(t *testing.T) {
	counts := map[string]int{}
	for _, s := range samples(16) {
		along := isOriented(t, s.what, s.g, s.r)
		rounds, least, bridges := roundsOf(s.r), leastOf(s.g), parts.Bridges(s.g)
		spared := notOdd(s.g, rounds, along)
		for place, e := range s.g.E {
			what, want := "all were odd", api.BadWitness
			one := spared[least[e.U]]
			isBeside := func(d api.Dart) bool { return min(d.U, d.V) == e.U && max(d.U, d.V) == e.V }
			switch {
			case slices.Contains(bridges, place):
				what, want = "a bridge", api.OK
			case len(one) == 1 && slices.ContainsFunc(rounds[one[0]], isBeside):
				what, want = "beside the one that was not odd", api.OK
			case len(one) == 1:
				what = "beside others than the one that was not odd"
			}
			isChecked(t, fmt.Sprint(s.what, ", edge ", place, ": ", what), s.g, s.r, turned(along, place), want)
			counts[what]++
		}
	}
	if len(counts) != 4 {
		t.Errorf("kinds of edges: %v", counts)
	}
}

// P1701: all edges at a vertex turned, or all edges of a component: what was good is good still.
func TestManyEdgesTurned(t *testing.T) {
	d := dice(1711)
	for _, s := range samples(16) {
		along := isOriented(t, s.what, s.g, s.r)
		least := leastOf(s.g)
		for v := range s.g.N {
			at, inside := slices.Clone(along), slices.Clone(along)
			for place, e := range s.g.E {
				if e.U == v || e.V == v {
					at[place] = !at[place]
				}
				if least[e.U] == least[v] {
					inside[place] = !inside[place]
				}
			}
			isChecked(t, s.what+", at a vertex", s.g, s.r, at, api.OK)
			isChecked(t, s.what+", of a component", s.g, s.r, inside, kindOf(s.g, s.r, inside))
			if d.below(2) == 0 {
				along = at
			}
		}
	}
}

// P1701: several components may have one face each that is not odd; none may have two, wherever it stands.
func TestOneFaceOfEach(t *testing.T) {
	d := dice(1712)
	good, bad := slices.Repeat([]bool{true}, 4), []bool{true, false, true, true} // of a square

	list := [][][]int{ring(3), ring(5), wheel(5), d.triangles(7), fan(3), grid(3, 3), way(3), d.tree(5)} // each of an odd number of vertices
	for range 100 {
		var systems [][][]int
		for range 1 + d.below(5) {
			systems = append(systems, list[d.below(len(list))])
		}
		r := beside(systems...)
		g := of(r)
		along := isOriented(t, "odd ones", g, r)
		if spared := notOdd(g, roundsOf(r), along); len(spared) != len(systems) {
			t.Fatalf("%v: not odd: %v", g, spared)
		}
		square := beside(r, ring(4))
		whole := of(square)
		isChecked(t, "odd ones, and a square", whole, square, append(slices.Clone(along), good...), api.OK)
		isChecked(t, "odd ones, and a square that is not", whole, square, append(slices.Clone(along), bad...), api.BadWitness)
		square = beside(ring(4), r)
		whole = of(square)
		isChecked(t, "a square, and odd ones", whole, square, slices.Concat(good, along), api.OK)
		isChecked(t, "a square that is not, and odd ones", whole, square, slices.Concat(bad, along), api.BadWitness)
	}
}

// P1701: a face that goes over a bridge twice has one dart of it along, whichever way the bridge goes.
func TestBridgesInFaces(t *testing.T) {
	for what, r := range map[string][][]int{
		"an edge": way(2), "two squares": bridged(ring(4), ring(4)), "two triangles": bridged(ring(3), ring(3)), "a square with an edge inside": {{1, 4, 3}, {0, 2}, {1, 3}, {2, 0}, {0}},
		"a square with two edges inside": {{1, 4, 3}, {0, 2}, {1, 5, 3}, {2, 0}, {0}, {2}}, "a long way to a square": bridged(way(6), ring(4)), "three": bridged(bridged(ring(4), nest(2, 4)), wheel(6)),
	} {
		g := of(r)
		bridges := parts.Bridges(g)
		if len(bridges) == 0 {
			t.Fatalf("%s: no bridge", what)
		}
		for number := range 1 << len(g.E) {
			if len(g.E) > 10 && number > 3000 {
				break
			}
			along := truthsOf(len(g.E), number)
			want := kindOf(g, r, along)
			isChecked(t, what, g, r, along, want)
			isChecked(t, what+", bridges turned", g, r, turned(along, bridges...), want)
		}
	}
}

// P1701: truths that are too few or too many, also where the missing ones would mean nothing, or spare room would do.
func TestWrongTruths(t *testing.T) {
	for _, s := range samples(9) {
		along := isOriented(t, s.what, s.g, s.r)
		m := len(along)
		for _, length := range []int{0, 1, m - 1, m + 1, m + 2, 2 * m, 1000} {
			if length < 0 || length == m {
				continue
			}
			other := make([]bool, length)
			copy(other, along)
			isChecked(t, fmt.Sprint(s.what, ", so many truths: ", length), s.g, s.r, other, api.BadWitness)
		}
		if m > 0 {
			isChecked(t, s.what+", nil", s.g, s.r, nil, api.BadWitness)
			isChecked(t, s.what+", spare room", s.g, s.r, along[:m-1], api.BadWitness)
		}
	}
}
