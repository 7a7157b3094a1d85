package matching_test

import (
	"math/big"
	"slices"

	"filigree/api"
)

// rightOf is what P1301 says of a multigraph, word by word.
func rightOf(m api.Graph) api.Kind {
	if m.N < 0 {
		return api.BadArg
	}
	if m.N > api.MaxMatch || len(m.E) > api.MaxM {
		return api.TooLarge
	}
	within := func(v int) bool { return 0 <= v && v <= m.N-1 }
	for _, e := range m.E {
		if !within(e.U) || !within(e.V) {
			return api.BadVertex
		}
		if e.U == e.V {
			return api.Loop
		}
		if !(e.W > -api.MaxCost && e.W < api.MaxCost) {
			return api.BadWeight
		}
	}
	return api.OK
}

// checkOf is what P1302 says of Check, word by word.
func checkOf(m api.Graph, in []int) api.Kind {
	if k := rightOf(m); k != api.OK {
		return k
	}
	ends := make([]int, m.N)
	for i, place := range in {
		if place < 0 || place >= len(m.E) || i > 0 && in[i-1] >= place {
			return api.BadWitness
		}
		ends[m.E[place].U]++
		ends[m.E[place].V]++
	}
	if slices.ContainsFunc(ends, func(count int) bool { return count != 1 }) {
		return api.BadWitness
	}
	return api.OK
}

// costOf is what P1302 says of Cost, word by word.
func costOf(m api.Graph, in []int) *big.Int {
	sum := new(big.Int)
	if rightOf(m) != api.OK {
		return sum
	}
	for _, place := range in {
		if place < 0 || place >= len(m.E) {
			return new(big.Int)
		}
		sum.Add(sum, big.NewInt(m.E[place].W))
	}
	return sum
}

// holdsOf is what P1303 says of Holds, word by word.
func holdsOf(m api.Graph, in []int, p api.Proof) api.Kind {
	if k := checkOf(m, in); k != api.OK {
		return k
	}
	if len(p.Y) != m.N {
		return api.BadWitness
	}
	sets := make([]map[int]bool, len(p.B))
	for i, b := range p.B {
		sets[i] = map[int]bool{}
		for at, v := range b.In {
			if v < 0 || v > m.N-1 || at > 0 && b.In[at-1] >= v {
				return api.BadWitness
			}
			sets[i][v] = true
		}
		if len(b.In) < 3 || len(b.In)%2 != 1 || b.Z < 0 {
			return api.BadWitness
		}
	}
	for _, e := range m.E {
		sum := new(big.Int).Add(big.NewInt(p.Y[e.U]), big.NewInt(p.Y[e.V]))
		for i, b := range p.B {
			if sets[i][e.U] && sets[i][e.V] {
				sum.Add(sum, big.NewInt(b.Z))
			}
		}
		if sum.Cmp(big.NewInt(-2*e.W)) < 0 {
			return api.BadWitness
		}
	}
	sum := new(big.Int)
	for _, y := range p.Y {
		sum.Add(sum, big.NewInt(y))
	}
	for _, b := range p.B {
		sum.Add(sum, new(big.Int).Mul(big.NewInt(b.Z), big.NewInt(int64(len(b.In)-1)/2)))
	}
	if sum.Cmp(new(big.Int).Mul(big.NewInt(-2), costOf(m, in))) != 0 {
		return api.BadWitness
	}
	return api.OK
}

// matchings hands out all perfect matchings of a right multigraph, their places rising.
func matchings(m api.Graph, with func(in []int)) {
	met := make([]bool, m.N)
	var in []int
	var choose func()
	choose = func() {
		v := slices.Index(met, false)
		if v < 0 {
			list := slices.Clone(in)
			slices.Sort(list)
			with(list)
			return
		}
		for place, e := range m.E {
			if (e.U == v || e.V == v) && !met[e.U] && !met[e.V] {
				met[e.U], met[e.V] = true, true
				in = append(in, place)
				choose()
				in = in[:len(in)-1]
				met[e.U], met[e.V] = false, false
			}
		}
	}
	choose()
}

// leastOf is the least cost of all perfect matchings of a right multigraph of few vertices; false: there is none. It goes through
// the sets of vertices: the first one of each has a partner in it.
func leastOf(m api.Graph) (cost int64, there bool) {
	if m.N%2 != 0 {
		return 0, false
	}
	type sum struct {
		cost  int64
		there bool
	}
	known := map[uint]sum{0: {0, true}}
	at := make([][]api.Edge, m.N)
	for _, e := range m.E {
		at[e.U] = append(at[e.U], e)
		at[e.V] = append(at[e.V], api.Edge{U: e.V, V: e.U, W: e.W})
	}
	var find func(left uint) sum
	find = func(left uint) sum {
		if s, ok := known[left]; ok {
			return s
		}
		v := 0
		for left>>v&1 == 0 {
			v++
		}
		var least sum
		for _, e := range at[v] {
			if left>>e.V&1 == 0 {
				continue
			}
			s := find(left &^ (1<<v | 1<<e.V))
			if s.there && (!least.there || s.cost+e.W < least.cost) {
				least = sum{s.cost + e.W, true}
			}
		}
		known[left] = least
		return least
	}
	s := find(1<<m.N - 1)
	return s.cost, s.there
}
