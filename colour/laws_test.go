package colour_test

import (
	"fmt"
	"testing"

	"filigree/api"
	"filigree/colour"
	"filigree/rotation"
)

// P1105: what is coloured is so under any names, in its mirror, and wherever its lists begin.
func TestNames(t *testing.T) {
	d := dice(1109)
	for _, s := range inPlane() {
		for range 5 {
			r := d.turned(d.named(s.r))
			isFive(t, s.what+", named anew", of(r), r)
			isFive(t, s.what+", named anew, mirror", of(r), rotation.Mirror(r))
		}
	}
}

// P1102, P1103: weights of any size are in the way of no colours, and Greedy does not look at them.
func TestWeights(t *testing.T) {
	for _, s := range inPlane() {
		h := api.Graph{N: s.g.N}
		for i, e := range s.g.E {
			weights := []int64{api.MaxW - 1, -1, 0, 1 - api.MaxW}
			h.E = append(h.E, api.Edge{U: e.U, V: e.V, W: weights[i%len(weights)]})
		}
		isFive(t, s.what+", other weights", h, s.r)
		a, _ := colour.Greedy(s.g, upTo(h.N))
		b, k := colour.Greedy(h, upTo(h.N))
		if fmt.Sprint(a) != fmt.Sprint(b) || k != api.OK {
			t.Fatalf("%s: Greedy with other weights: %v, not %v, kind %d", s.what, b, a, int(k))
		}
	}
}

// P1105: there are orders in which as many colours as 1 more than the greatest degree are needed, and more never are.
func TestGreatestDegree(t *testing.T) {
	for n := 1; n < 30; n++ {
		for what, g := range map[string]api.Graph{"all joined": sorted(n, among(n)...), "an odd ring": of(ring(2*n + 1))} {
			c, _ := colour.Greedy(g, upTo(g.N))
			if used := colour.Used(c); used != mostDegree(g)+1 {
				t.Errorf("%s of %d: %d colours, the greatest degree is %d", what, n, used, mostDegree(g))
			}
		}
	}
}

// P1103, P1105: Greedy again, in the order of its own colours, needs no more of them.
func TestGreedyAgain(t *testing.T) {
	d := dice(1110)
	for n := range 60 {
		g := d.graph(n, 5+n)
		c, _ := colour.Greedy(g, d.order(n))
		var order []int
		for one := range colour.Used(c) {
			for v := range c {
				if c[v] == one {
					order = append(order, v)
				}
			}
		}
		isGreedy(t, "again", g, order)
		again, _ := colour.Greedy(g, order)
		if colour.Used(again) > colour.Used(c) {
			t.Errorf("%d colours, then %d", colour.Used(c), colour.Used(again))
		}
	}
}
