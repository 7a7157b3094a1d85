package planar_test

import (
	"math"
	"slices"
	"testing"

	"filigree/api"
	"filigree/kuratowski"
	"filigree/planar"
	"filigree/rotation"
)

// isHeld fails the test unless Holds answers this kind.
func isHeld(t *testing.T, what string, g api.Graph, a planar.Answer, want api.Kind) {
	t.Helper()
	if k := planar.Holds(g, a); k != want {
		t.Fatalf("%s: Holds of %v, %v: kind %d, not %d", what, g, a, int(k), int(want))
	}
}

// inPlaneOf and witnessOf are answers.
func inPlaneOf(r ...[]int) planar.Answer { return planar.Answer{Planar: true, R: r} }
func witnessOf(in ...int) planar.Answer  { return planar.Answer{In: in} }

// rising is the system whose lists rise.
func rising(g api.Graph) [][]int {
	r := make([][]int, g.N)
	for _, e := range g.E {
		r[e.U] = append(r[e.U], e.V)
		r[e.V] = append(r[e.V], e.U)
	}
	for _, list := range r {
		slices.Sort(list)
	}
	return r
}

// P902: answers that hold.
func TestHolds(t *testing.T) {
	isHeld(t, "no vertex", api.Graph{}, inPlaneOf(), api.OK)
	isHeld(t, "no vertex, empty lists", api.Graph{}, planar.Answer{Planar: true, R: [][]int{}, In: []int{}}, api.OK)
	isHeld(t, "no edge", api.Graph{N: 2}, inPlaneOf(nil, []int{}), api.OK)
	isHeld(t, "a triangle", sorted(3, round(0, 1, 2)...), inPlaneOf([]int{1, 2}, []int{0, 2}, []int{1, 0}), api.OK)
	four := sorted(4, among(0, 1, 2, 3)...)
	isHeld(t, "K4", four, inPlaneOf([]int{1, 2, 3}, []int{0, 3, 2}, []int{0, 1, 3}, []int{0, 2, 1}), api.OK)
	five := sorted(5, among(upTo(5)...)...)
	isHeld(t, "K5", five, witnessOf(upTo(10)...), api.OK)
	isHeld(t, "K5, from behind", five, planar.Answer{R: [][]int{}, In: []int{9, 8, 7, 6, 5, 4, 3, 2, 1, 0}}, api.OK)
	isHeld(t, "K3,3", sorted(6, between(3, 3)...), witnessOf(upTo(9)...), api.OK)
}

// P902: systems that are none of the graph's, or not in the plane.
func TestHoldsNoSystem(t *testing.T) {
	four := sorted(4, among(0, 1, 2, 3)...)
	right := [][]int{{1, 2, 3}, {0, 3, 2}, {0, 1, 3}, {0, 2, 1}}
	isHeld(t, "not in the plane", four, inPlaneOf(rising(four)...), api.BadRotation)
	isHeld(t, "no list", four, inPlaneOf(), api.BadRotation)
	isHeld(t, "a list too few", four, inPlaneOf(right[:3]...), api.BadRotation)
	isHeld(t, "a list too many", four, inPlaneOf(append(slices.Clone(right), nil)...), api.BadRotation)
	isHeld(t, "no vertex, a list", api.Graph{}, inPlaneOf(nil), api.BadRotation)
	isHeld(t, "no edge, a neighbour", api.Graph{N: 2}, inPlaneOf([]int{1}, []int{0}), api.BadRotation)
	for _, list := range [][]int{nil, {1, 2}, {1, 2, 2}, {1, 2, 0}, {1, 2, 4}, {1, 2, -1}, {1, 2, math.MaxInt}, {1, 2, 3, 1}, {1, 2, 3, 3}} {
		isHeld(t, "a wrong list", four, inPlaneOf(list, right[1], right[2], right[3]), api.BadRotation)
		isHeld(t, "a wrong list, later", four, inPlaneOf(right[0], right[1], right[2], moved(-1, list)), api.BadRotation)
	}
	five := sorted(5, among(upTo(5)...)...)
	isHeld(t, "K5, told planar", five, inPlaneOf(rising(five)...), api.BadRotation)
	isHeld(t, "K5, told planar, without a system", five, planar.Answer{Planar: true}, api.BadRotation)
}

// P902: edges that are no witness, and places that are none or there twice.
func TestHoldsNoWitness(t *testing.T) {
	five := sorted(7, append(among(upTo(5)...), 5, 6, 4, 6)...)
	for what, in := range map[string][]int{
		"none":           nil,
		"one":            {0},
		"an edge less":   upTo(9),
		"an edge more":   upTo(11),
		"all edges":      upTo(12),
		"others instead": {0, 1, 2, 3, 4, 5, 6, 7, 8, 10},
	} {
		isHeld(t, what, five, witnessOf(in...), api.BadWitness)
	}
	for what, in := range map[string][]int{
		"below 0":         append(upTo(10), -1),
		"past the last":   append(upTo(10), 12),
		"far past it":     append(upTo(10), math.MaxInt),
		"the least":       {math.MinInt},
		"twice":           append(upTo(10), 3),
		"twice, one less": append(upTo(9), 8),
		"a single twice":  {11, 11},
	} {
		isHeld(t, what, five, witnessOf(in...), api.BadArg)
	}
	isHeld(t, "a triangle, told not planar", sorted(3, round(0, 1, 2)...), witnessOf(0, 1, 2), api.BadWitness)
	isHeld(t, "no vertex, told not planar", api.Graph{}, planar.Answer{}, api.BadWitness)
	isHeld(t, "a place of no edge", api.Graph{N: 3}, witnessOf(0), api.BadArg)
}

// P902: what is told beside the answer must be empty, whatever else is wrong with it.
func TestHoldsBeside(t *testing.T) {
	three := sorted(3, round(0, 1, 2)...)
	five := sorted(5, among(upTo(5)...)...)
	isHeld(t, "a triangle, an edge beside", three, planar.Answer{Planar: true, R: rising(three), In: []int{0}}, api.BadWitness)
	isHeld(t, "a triangle, places that are none beside", three, planar.Answer{Planar: true, R: rising(three), In: []int{-1, 77}}, api.BadWitness)
	isHeld(t, "K5, told planar with its witness", five, planar.Answer{Planar: true, R: rising(five), In: upTo(10)}, api.BadWitness)
	isHeld(t, "a wrong system, an edge beside", three, planar.Answer{Planar: true, R: [][]int{{7}}, In: []int{0}}, api.BadWitness)
	isHeld(t, "no system, an edge beside", three, planar.Answer{Planar: true, In: []int{0}}, api.BadWitness)
	isHeld(t, "K5, a system beside", five, planar.Answer{R: rising(five), In: upTo(10)}, api.BadRotation)
	isHeld(t, "K5, a list beside", five, planar.Answer{R: [][]int{nil}, In: upTo(10)}, api.BadRotation)
	isHeld(t, "a triangle, told not planar with its system", three, planar.Answer{R: rising(three)}, api.BadRotation)
	isHeld(t, "no witness, a list beside", five, planar.Answer{R: [][]int{{1}}, In: upTo(9)}, api.BadRotation)
	isHeld(t, "places that are none, a list beside", five, planar.Answer{R: [][]int{{1}}, In: []int{-1}}, api.BadRotation)
}

// P902: BadArg ahead of all: graphs that are not right, whatever is told of them.
func TestHoldsWrongGraphs(t *testing.T) {
	for what, g := range wrongs() {
		for _, a := range []planar.Answer{
			{}, {Planar: true}, inPlaneOf(nil, nil, nil), inPlaneOf([]int{1}, []int{0}, nil), witnessOf(0), witnessOf(upTo(10)...),
			{Planar: true, In: []int{0}}, {R: [][]int{nil}}, {R: [][]int{{1}}, In: []int{-1}},
		} {
			isHeld(t, what, g, a, api.BadArg)
		}
		if a, k := planar.Decide(g); k != api.BadArg || a.Planar || a.R != nil || a.In != nil {
			t.Errorf("%s: Decide: %v, kind %d", what, a, int(k))
		}
	}
}

// P901, P902: a graph that is spoilt at one edge, with an answer that held.
func TestSpoiltGraphs(t *testing.T) {
	for _, c := range slices.Concat(inPlane()[:90], notInPlane()[:90]) {
		a := decided(t, c.what, c.g)
		for _, spoil := range []func(e *api.Edge){
			func(e *api.Edge) { e.U, e.V = e.V, e.U },
			func(e *api.Edge) { e.V = e.U },
			func(e *api.Edge) { e.U = -1 },
			func(e *api.Edge) { e.V = c.g.N },
			func(e *api.Edge) { e.W = api.MaxW },
			func(e *api.Edge) { e.W = -api.MaxW },
		} {
			g := api.Graph{N: c.g.N, E: slices.Clone(c.g.E)}
			if len(g.E) == 0 {
				continue
			}
			spoil(&g.E[len(g.E)/2])
			isHeld(t, c.what, g, a, api.BadArg)
			if b, k := planar.Decide(g); k != api.BadArg || b.Planar || b.R != nil || b.In != nil {
				t.Fatalf("%s: Decide: %v, kind %d", c.what, b, int(k))
			}
		}
	}
}

// P902: answers of all kinds of graphs, spoilt a little: Holds says what the checkers below say.
func TestSpoiltAnswers(t *testing.T) {
	d := dice(906)
	for _, c := range slices.Concat(inPlane(), notInPlane()) {
		a := decided(t, c.what, c.g)
		b := planar.Answer{Planar: !a.Planar, R: a.R, In: a.In}
		want := api.BadRotation
		if b.Planar {
			want = api.BadWitness
		}
		if len(a.R)+len(a.In) > 0 {
			isHeld(t, c.what+", turned over", c.g, b, want)
		}
		for range 3 {
			if a.Planar {
				r := slices.Clone(a.R)
				v := d.below(len(r))
				r[v] = slices.Clone(r[v])
				for i, at := range d.order(len(r[v])) {
					r[v][i] = a.R[v][at]
				}
				isHeld(t, c.what, c.g, inPlaneOf(r...), rotation.Plane(c.g, r))
			} else {
				in := slices.Clone(a.In)
				in[d.below(len(in))] = d.below(len(c.g.E) + 1)
				isHeld(t, c.what, c.g, witnessOf(in...), kuratowski.Check(c.g, in))
			}
		}
	}
}
