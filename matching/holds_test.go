package matching_test

import (
	"math"
	"slices"
	"testing"

	"filigree/api"
	"filigree/matching"
)

// isHeld fails the test unless Holds tells what the words do, and tells it.
func isHeld(t *testing.T, what string, m api.Graph, in []int, p api.Proof) api.Kind {
	t.Helper()
	want := holdsOf(m, in, p)
	if k := matching.Holds(m, in, p); k != want {
		t.Fatalf("%s: Holds(%v, %v, %v): kind %d, not %d", what, m, in, p, int(k), int(want))
	}
	return want
}

// isWrong fails the test unless Holds and the words refuse a proof.
func isWrong(t *testing.T, what string, m api.Graph, in []int, p api.Proof) {
	t.Helper()
	if k := isHeld(t, what, m, in, p); k != api.BadWitness {
		t.Fatalf("%s: Holds(%v, %v, %v): kind %d", what, m, in, p, int(k))
	}
}

// set is a blossom of these vertices.
func set(z int64, in ...int) api.Blossom { return api.Blossom{In: in, Z: z} }

// proof is one of these numbers, without a set.
func proof(y ...int64) api.Proof { return api.Proof{Y: y} }

// with is a proof and some sets more.
func with(p api.Proof, sets ...api.Blossom) api.Proof {
	return api.Proof{Y: p.Y, B: append(slices.Clone(p.B), sets...)}
}

// bridged is two odd rings, and an edge of cost 9 between them; the edges at the places 0, 3 and 6 are its perfect matching.
func bridged() api.Graph {
	return multi(6, [3]int64{0, 1, 1}, [3]int64{1, 2, 1}, [3]int64{2, 0, 1}, [3]int64{3, 4, 1}, [3]int64{4, 5, 1}, [3]int64{5, 3, 1}, [3]int64{2, 5, 9})
}

// P1303: what is a proof and what is not, told by hand.
func TestHoldsTold(t *testing.T) {
	pair := multi(2, [3]int64{0, 1, 5}, [3]int64{1, 0, 7})
	square := multi(4, [3]int64{0, 1, 1}, [3]int64{1, 2, 5}, [3]int64{2, 3, 1}, [3]int64{3, 0, 5})
	rings, three := bridged(), []int{0, 3, 6}
	right := with(proof(-9, -9, -9, -9, -9, -9), set(16, 0, 1, 2), set(16, 3, 4, 5))
	for _, c := range []struct {
		what string
		m    api.Graph
		in   []int
		p    api.Proof
		want api.Kind
	}{
		{"no vertex", api.Graph{}, nil, api.Proof{}, api.OK},
		{"no vertex, empty lists", api.Graph{}, []int{}, api.Proof{Y: []int64{}, B: []api.Blossom{}}, api.OK},
		{"no vertex, a number", api.Graph{}, nil, proof(0), api.BadWitness},
		{"no vertex, a set", api.Graph{}, nil, with(proof(), set(0, 0, 1, 2)), api.BadWitness},
		{"no vertex, an empty set", api.Graph{}, nil, with(proof(), set(0)), api.BadWitness},
		{"a vertex alone", api.Graph{N: 1}, nil, proof(0), api.BadWitness},
		{"two vertices", pair, []int{0}, proof(-5, -5), api.OK},
		{"two vertices, other numbers", pair, []int{0}, proof(-11, 1), api.OK},
		{"two vertices, the dear edge", pair, []int{1}, proof(-7, -7), api.BadWitness},
		{"two vertices, the dear edge, numbers of the cheap one", pair, []int{1}, proof(-5, -5), api.BadWitness},
		{"two vertices, too small by 1", pair, []int{0}, proof(-5, -6), api.BadWitness},
		{"two vertices, too great by 1", pair, []int{0}, proof(-4, -5), api.BadWitness},
		{"two vertices, too few numbers", pair, []int{0}, proof(-10), api.BadWitness},
		{"two vertices, no numbers", pair, []int{0}, proof(), api.BadWitness},
		{"two vertices, too many numbers", pair, []int{0}, proof(-5, -5, 0), api.BadWitness},
		{"two vertices, no matching", pair, []int{0, 1}, proof(-5, -5), api.BadWitness},
		{"the example", square, []int{0, 2}, proof(-1, -1, -1, -1), api.OK},
		{"the example, another proof", square, []int{0, 2}, proof(-3, 1, -3, 1), api.OK},
		{"the example, an edge is short by 1", square, []int{0, 2}, proof(-9, 7, 0, -2), api.BadWitness},
		{"the example, an edge just met", square, []int{0, 2}, proof(-8, 6, 0, -2), api.OK},
		{"the example, the dear ones", square, []int{1, 3}, proof(-5, -5, -5, -5), api.BadWitness},
		{"the example, the dear ones, numbers of the others", square, []int{1, 3}, proof(-1, -1, -1, -1), api.BadWitness},
		{"the example, a set of Z 0", square, []int{0, 2}, with(proof(-1, -1, -1, -1), set(0, 1, 2, 3)), api.OK},
		{"the example, a set of Z 1", square, []int{0, 2}, with(proof(-1, -1, -1, -1), set(1, 1, 2, 3)), api.BadWitness},
		{"rings", rings, three, right, api.OK},
		{"rings, the first set is not there", rings, three, with(proof(right.Y...), set(16, 3, 4, 5)), api.BadWitness},
		{"rings, no set", rings, three, proof(right.Y...), api.BadWitness},
		{"rings, numbers for no set", rings, three, proof(-1, -1, -1, -1, -1, -1), api.BadWitness},
		{"rings, one set twice by halves", rings, three, with(proof(right.Y...), set(8, 0, 1, 2), set(16, 3, 4, 5), set(8, 0, 1, 2)), api.OK},
		{"rings, one set twice", rings, three, with(right, set(16, 0, 1, 2)), api.BadWitness},
		{"rings, one set twice, once of Z 0", rings, three, with(right, set(0, 0, 1, 2)), api.OK},
		{"rings, a set around of Z 0", rings, three, with(right, set(0, 0, 1, 2, 3, 4)), api.OK},
		{"rings, a set around, paid for by its vertices", rings, three,
			with(proof(-10, -10, -10, -10, -10, -8), set(16, 0, 1, 2), set(16, 3, 4, 5), set(2, 0, 1, 2, 3, 4)), api.OK},
		{"rings, a set around, paid for by the rings", rings, three,
			with(proof(-9, -9, -9, -9, -9, -9), set(14, 0, 1, 2), set(16, 3, 4, 5), set(2, 0, 1, 2, 3, 4)), api.BadWitness},
		{"rings, sets that cross", rings, three, with(right, set(0, 1, 3, 5), set(0, 2, 3, 4)), api.OK},
		{"rings, Z less by 1", rings, three, with(proof(right.Y...), set(15, 0, 1, 2), set(16, 3, 4, 5)), api.BadWitness},
		{"rings, Z more by 1", rings, three, with(proof(right.Y...), set(16, 0, 1, 2), set(17, 3, 4, 5)), api.BadWitness},
		{"rings, Z less and more", rings, three, with(proof(right.Y...), set(15, 0, 1, 2), set(17, 3, 4, 5)), api.BadWitness},
		{"rings, Z below 0", rings, three, with(right, set(-1, 0, 1, 2)), api.BadWitness},
		{"rings, Z below 0 and above", rings, three, with(right, set(-1, 0, 1, 2), set(1, 0, 1, 2)), api.BadWitness},
		{"rings, an even set", rings, three, with(right, set(0, 0, 1, 2, 3)), api.BadWitness},
		{"rings, a set of 1", rings, three, with(right, set(0, 1)), api.BadWitness},
		{"rings, a set of 1 that counts for nothing", rings, three, with(right, set(77, 1)), api.BadWitness},
		{"rings, a set of 2", rings, three, with(right, set(0, 1, 2)), api.BadWitness},
		{"rings, a set of none", rings, three, with(right, set(0)), api.BadWitness},
		{"rings, all vertices", rings, three, with(right, set(0, 0, 1, 2, 3, 4, 5)), api.BadWitness},
		{"rings, a set that falls", rings, three, with(right, set(0, 2, 1, 0)), api.BadWitness},
		{"rings, a set in no order", rings, three, with(proof(right.Y...), set(16, 0, 2, 1), set(16, 3, 4, 5)), api.BadWitness},
		{"rings, a vertex twice", rings, three, with(right, set(0, 0, 1, 1)), api.BadWitness},
		{"rings, a vertex twice, odd with it", rings, three, with(right, set(0, 0, 1, 2, 3, 3)), api.BadWitness},
		{"rings, a vertex beyond", rings, three, with(right, set(0, 4, 5, 6)), api.BadWitness},
		{"rings, a vertex below 0", rings, three, with(right, set(0, -1, 0, 1)), api.BadWitness},
		{"rings, the greatest vertex", rings, three, with(right, set(0, 0, 1, math.MaxInt)), api.BadWitness},
		{"rings, the least vertex", rings, three, with(right, set(0, math.MinInt, 0, 1)), api.BadWitness},
		{"rings, not rising", rings, []int{3, 0, 6}, right, api.BadWitness},
	} {
		isKind(t, c.what, matching.Holds(c.m, c.in, c.p), c.want)
		isKind(t, c.what+", by the words", holdsOf(c.m, c.in, c.p), c.want)
	}
}

// P1303: sums of numbers as great as they can be are whole numbers without a bound.
func TestHoldsOfGreatNumbers(t *testing.T) {
	const least, most = math.MinInt64, math.MaxInt64
	free := multi(2, [3]int64{0, 1, 0})
	one := multi(2, [3]int64{0, 1, 1})
	four := multi(4, [3]int64{0, 1, 0}, [3]int64{2, 3, 0}, [3]int64{0, 2, 0}, [3]int64{1, 2, 0}, [3]int64{0, 3, 0}, [3]int64{1, 3, 0})
	two := []int{0, 1}
	for _, c := range []struct {
		what string
		m    api.Graph
		in   []int
		p    api.Proof
		want api.Kind
	}{
		{"there and back", free, []int{0}, proof(most, -most), api.OK},
		{"there and back, but for 1", free, []int{0}, proof(most, least), api.BadWitness},
		{"-2, if it went round", one, []int{0}, proof(most, most), api.BadWitness},
		{"0, if it went round", free, []int{0}, proof(least, least), api.BadWitness},
		{"all of the greatest", four, two, proof(most, most, most, most), api.BadWitness},
		{"all of the least", four, two, proof(least, least, least, least), api.BadWitness},
		{"by turns", four, two, proof(most, -most, most, -most), api.BadWitness},
		{"Z of the greatest, twice", four, two, with(proof(-most, -most, -most, most), set(most, 0, 1, 2), set(most, 0, 1, 2)), api.OK},
		{"Z of the greatest, twice, and 2", four, two, with(proof(least, least, -most, most), set(most, 0, 1, 2), set(most, 0, 1, 2), set(2, 0, 1, 2)), api.BadWitness},
		{"Z of the greatest, twice, and 2, all less", four, two, with(proof(least, least, least, most), set(most, 0, 1, 2), set(most, 0, 1, 2), set(2, 0, 1, 2)), api.BadWitness},
		{"Z of the greatest, once", four, two, with(proof(-most, -most, -most, most), set(most, 0, 1, 2)), api.BadWitness},
		{"Z of the greatest, thrice", four, two, with(proof(-most, -most, -most, most), set(most, 0, 1, 2), set(most, 0, 1, 2), set(most, 0, 1, 2)), api.BadWitness},
		{"Z that would go round to 0", four, two, with(proof(0, 0, 0, 0), set(1<<62, 0, 1, 2), set(1<<62, 0, 1, 2), set(1<<62, 0, 1, 2), set(1<<62, 0, 1, 2)), api.BadWitness},
		{"Z that would go round to below 0", four, two, with(proof(0, 0, 0, 0), set(1<<62, 0, 1, 2), set(1<<62, 0, 1, 2)), api.BadWitness},
		{"the least Z", four, two, with(proof(0, 0, 0, 0), set(least, 0, 1, 2)), api.BadWitness},
		{"the least Z, twice", four, two, with(proof(0, 0, 0, 0), set(least, 0, 1, 2), set(least, 0, 1, 2)), api.BadWitness},
	} {
		isKind(t, c.what, matching.Holds(c.m, c.in, c.p), c.want)
		isKind(t, c.what+", by the words", holdsOf(c.m, c.in, c.p), c.want)
	}
	numbers := []int64{least, least + 1, -1 << 62, -1 << 32, -2, -1, 0, 1, 2, 1 << 32, 1 << 62, most - 1, most}
	for _, m := range []api.Graph{free, one, multi(2, [3]int64{0, 1, -1}), multi(2, [3]int64{0, 1, api.MaxCost - 1})} {
		lists(2, 0, len(numbers)-1, func(at []int) {
			isHeld(t, "two vertices", m, []int{0}, proof(numbers[at[0]], numbers[at[1]]))
		})
	}
	lists(5, 0, len(numbers)-1, func(at []int) {
		p := with(proof(numbers[at[0]], numbers[at[0]], numbers[at[1]], numbers[at[2]]))
		for range at[4] % 5 {
			p.B = append(p.B, set(numbers[at[3]], 0, 1, 2))
		}
		isHeld(t, "four vertices", four, two, p)
	})
}

// P1303: all small numbers, without a set and with each set, against the words.
func TestHoldsOfAll(t *testing.T) {
	d := dice(1303)
	seen := map[api.Kind]int{}
	for range 40 {
		m := priced(d.any(4, 3), func(int) int64 { return int64(d.below(3)) - 1 })
		m.E = append(m.E, api.Edge{U: 0, V: 1, W: int64(d.below(2))}, api.Edge{U: 3, V: 2, W: -int64(d.below(2))})
		matchings(m, func(in []int) {
			lists(4, -2, 2, func(y []int) {
				p := proof(int64(y[0]), int64(y[1]), int64(y[2]), int64(y[3]))
				seen[isHeld(t, "no set", m, in, p)]++
				for left := range 4 {
					list := slices.Delete([]int{0, 1, 2, 3}, left, left+1)
					for z := range 4 {
						seen[isHeld(t, "a set", m, in, with(p, set(int64(z), list...)))]++
					}
				}
			})
		})
	}
	if seen[api.OK] < 100 || seen[api.BadWitness] < 100 {
		t.Errorf("right and wrong ones are asked for: %v", seen)
	}
}

// P1303: all sets of few numbers beside a proof, against the words.
func TestHoldsOfAllSets(t *testing.T) {
	m := bridged()
	in, p := isProved(t, "rings", m)
	seen := map[api.Kind]int{}
	for length := range 6 {
		lists(length, -1, 6, func(list []int) {
			seen[isHeld(t, "a set of Z 0", m, in, with(p, set(0, list...)))]++
		})
	}
	if seen[api.OK] != 20+6 {
		t.Errorf("%d sets are right, not those of 3 and of 5 vertices of 6", seen[api.OK])
	}
}

// P1303, P7: proofs of Perfect's are spoilt at one place.
func TestSpoilt(t *testing.T) {
	for _, s := range samples(12) {
		in, p, k := matching.Perfect(s.m)
		if k != api.OK {
			continue
		}
		for v := range s.m.N {
			for _, by := range []int64{-1, 1, -2, 2} {
				y := slices.Clone(p.Y)
				y[v] += by
				isWrong(t, s.what+", another Y", s.m, in, api.Proof{Y: y, B: p.B})
			}
			isWrong(t, s.what+", too few Y", s.m, in, api.Proof{Y: p.Y[:v], B: p.B})
		}
		isWrong(t, s.what+", too many Y", s.m, in, api.Proof{Y: append(slices.Clone(p.Y), 0), B: p.B})
		for i, b := range p.B {
			for _, z := range []int64{b.Z - 1, b.Z + 1, 0, -b.Z, -1, math.MinInt64, math.MaxInt64} {
				sets := slices.Clone(p.B)
				sets[i].Z = z
				isWrong(t, s.what+", another Z", s.m, in, api.Proof{Y: p.Y, B: sets})
			}
			isWrong(t, s.what+", a set less", s.m, in, api.Proof{Y: p.Y, B: slices.Delete(slices.Clone(p.B), i, i+1)})
			isWrong(t, s.what+", a set twice", s.m, in, with(p, b))
			sets := slices.Clone(p.B)
			sets[i].In = b.In[1:]
			isWrong(t, s.what+", an even set", s.m, in, api.Proof{Y: p.Y, B: sets})
		}
		if s.m.N >= 3 {
			isWrong(t, s.what+", a set more", s.m, in, with(p, set(1, 0, 1, 2)))
			isHeld(t, s.what+", a set of Z 0 more", s.m, in, with(p, set(0, 0, 1, 2)))
			turned := api.Proof{Y: p.Y, B: slices.Clone(p.B)}
			slices.Reverse(turned.B)
			isKind(t, s.what+", sets in another order", matching.Holds(s.m, in, turned), api.OK)
		}
	}
}

// P1303: a proof holds with the cheapest perfect matchings, and with no other one.
func TestHoldsOfOthers(t *testing.T) {
	seen := map[api.Kind]int{}
	for _, s := range samples(8) {
		if len(s.m.E) > 20 {
			continue
		}
		least, there := leastOf(s.m)
		if !there {
			continue
		}
		_, p, _ := matching.Perfect(s.m)
		matchings(s.m, func(in []int) {
			want := api.BadWitness
			if matching.Cost(s.m, in) == least {
				want = api.OK
			}
			seen[want]++
			isKind(t, s.what, isHeld(t, s.what, s.m, in, p), want)
		})
	}
	if seen[api.OK] < 100 || seen[api.BadWitness] < 100 {
		t.Errorf("right and wrong ones are asked for: %v", seen)
	}
}
