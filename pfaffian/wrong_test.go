package pfaffian_test

import (
	"math"
	"slices"
	"testing"

	"filigree/api"
	"filigree/pfaffian"
	"filigree/rotation"
)

// isRefused fails the test unless Orient, Check and Count answer this kind and nothing else. What is asked may be too great to be shown.
func isRefused(t *testing.T, what string, g api.Graph, r [][]int, along []bool, want api.Kind) {
	t.Helper()
	if list, k := pfaffian.Orient(g, r); len(list) != 0 || k != want {
		t.Errorf("%s: Orient: %d truths, kind %d, not %d", what, len(list), int(k), int(want))
	}
	if k := pfaffian.Check(g, r, along); k != want {
		t.Errorf("%s: Check: kind %d, not %d", what, int(k), int(want))
	}
	isUncounted(t, what, g, r, want)
}

// isUncounted fails the test unless Count answers this kind and nothing else.
func isUncounted(t *testing.T, what string, g api.Graph, r [][]int, want api.Kind) {
	t.Helper()
	if count, k := pfaffian.Count(g, r); count.Neg || len(count.Mag) != 0 || k != want {
		t.Errorf("%s: Count: %v, kind %d, not %d", what, count, int(k), int(want))
	}
}

// isNoMatrix fails the test unless Matrix answers BadArg and nothing else.
func isNoMatrix(t *testing.T, what string, g api.Graph, along []bool) {
	t.Helper()
	if m, k := pfaffian.Matrix(g, along); len(m) != 0 || k != api.BadArg {
		t.Errorf("%s: Matrix: %d rows, kind %d", what, len(m), int(k))
	}
}

// P1701, P1703: graphs that are not right, also where the lists or the truths are wrong as well.
func TestWrongGraphs(t *testing.T) {
	for what, g := range wrongs() {
		for _, r := range [][][]int{nil, {}, {{1}, {0}, nil}, {{1}, {0}}, {{0}}, {{7, 7}, nil, {-1}}, {{1, 2}, {0, 2}, {0, 1}}, bagel(3, 3)} {
			isRefused(t, what, g, r, nil, api.BadArg)
			isRefused(t, what, g, r, make([]bool, min(len(g.E), 9)), api.BadArg)
		}
	}
}

// P1702: graphs that are not right, whatever truths there are.
func TestMatrixOfWrongGraphs(t *testing.T) {
	for what, g := range wrongs() {
		for _, length := range []int{0, 1, 2, 3, len(g.E)} {
			isNoMatrix(t, what, g, make([]bool, length))
		}
		isNoMatrix(t, what, g, nil)
	}
}

// P1702: truths that are too few or too many, also where the missing ones would mean nothing, or spare room would do.
func TestMatrixOfWrongTruths(t *testing.T) {
	list := samples(9)
	for _, g := range []api.Graph{all(5), of(between(3, 3)), of(bagel(3, 3))} {
		list = append(list, sample{what: "not planar", g: g})
	}
	for _, s := range list {
		m := len(s.g.E)
		for _, length := range []int{0, 1, m - 1, m + 1, m + 2, 2 * m, 1000} {
			if length >= 0 && length != m {
				isNoMatrix(t, s.what, s.g, make([]bool, length))
			}
		}
		if m > 0 {
			isNoMatrix(t, s.what+", nil", s.g, nil)
			isNoMatrix(t, s.what+", spare room", s.g, make([]bool, m-1, m))
		}
	}
	isNoMatrix(t, "no vertex, a truth", api.Graph{}, []bool{true})
	isNoMatrix(t, "MaxCount vertices, a truth too many", api.Graph{N: api.MaxCount}, []bool{true})
}

// P1701, P1703: lists that are no system of the graph.
func TestWrongLists(t *testing.T) {
	triangle := of(ring(3))
	row := edges(4, [3]int64{1, 3, 1})
	for _, c := range []struct {
		what string
		g    api.Graph
		r    [][]int
	}{
		{"no list", triangle, nil},
		{"no list, an empty one", triangle, [][]int{}},
		{"too few", triangle, [][]int{{1, 2}, {0, 2}}},
		{"too many", triangle, [][]int{{1, 2}, {0, 2}, {0, 1}, {}}},
		{"a list of no vertex", api.Graph{}, [][]int{{}}},
		{"vertices without lists", api.Graph{N: 2}, [][]int{{}}},
		{"a neighbour where there is no edge", api.Graph{N: 2}, [][]int{{1}, {0}}},
		{"a list that lacks", triangle, [][]int{{1, 2}, nil, {0, 1}}},
		{"a neighbour that lacks", triangle, [][]int{{1, 2}, {0, 2}, {0}}},
		{"a neighbour that lacks on both sides", triangle, [][]int{{1}, {0, 2}, {1}}},
		{"one twice, another lacks", triangle, [][]int{{1, 1}, {0, 2}, {0, 1}}},
		{"one twice beside all", triangle, [][]int{{1, 2, 1}, {0, 2}, {0, 1}}},
		{"its own number", triangle, [][]int{{1, 0}, {0, 2}, {0, 1}}},
		{"one that is no neighbour", row, [][]int{nil, {2}, nil, {1}}},
		{"a number below 0", triangle, [][]int{{1, -1}, {0, 2}, {0, 1}}},
		{"a number one beyond", triangle, [][]int{{1, 3}, {0, 2}, {0, 1}}},
		{"the least number", triangle, [][]int{{1, 2}, {0, math.MinInt}, {0, 1}}},
		{"the greatest number", triangle, [][]int{{1, 2}, {0, 2}, {0, math.MaxInt}}},
		{"of another graph", row, [][]int{{1}, {0}, nil, nil}},
	} {
		isRefused(t, c.what, c.g, c.r, make([]bool, len(c.g.E)), api.BadRotation)
		isRefused(t, c.what+", a truth too many", c.g, c.r, make([]bool, len(c.g.E)+1), api.BadRotation)
	}
}

// P1701, P1703: right systems that are not in the plane, also of graphs that are planar; with truths that would be wrong as well.
func TestNotInPlane(t *testing.T) {
	d := dice(1720)
	twisted := wheel(6)
	slices.Reverse(twisted[3])
	for what, r := range map[string][][]int{
		"K5":                        rising(all(5)),
		"K3,3":                      between(3, 3),
		"K4, rising":                rising(all(4)),
		"bagel":                     bagel(3, 4),
		"wheel, a list from behind": twisted,
		"the first of two is not":   beside(bagel(3, 3), ring(4)),
		"the last of two is not":    beside(ring(4), bagel(3, 3)),
		"one of many is not":        beside(alone(2), ring(4), bagel(3, 3), d.tree(9), alone(2)),
		"an odd one, and one not":   beside(ring(3), bagel(4, 4)),
		"a cut vertex and one not":  glued(ring(5), bagel(3, 3)),
		"a bridge and one is not":   bridged(bagel(4, 4), ring(3)),
	} {
		g := of(r)
		if k := rotation.Right(g, r); k != api.OK {
			t.Errorf("%s: Right: kind %d", what, int(k))
		}
		for _, length := range []int{0, len(g.E) - 1, len(g.E), len(g.E) + 1} {
			isRefused(t, what, g, r, make([]bool, length), api.BadRotation)
		}
	}
}

// P1701, P1703: where two numbers of a list change places the system may be in the plane still, or not.
func TestSpoiltSystems(t *testing.T) {
	d := dice(1721)
	counts := map[api.Kind]int{}
	for _, s := range samples(11) {
		for v, list := range s.r {
			if len(list) < 3 {
				continue
			}
			spoilt := slices.Clone(s.r)
			spoilt[v] = slices.Clone(list)
			i, j := d.below(len(list)), d.below(len(list))
			spoilt[v][i], spoilt[v][j] = list[j], list[i]
			k := rotation.Plane(s.g, spoilt)
			counts[k]++
			if k == api.OK {
				isOriented(t, s.what, s.g, spoilt)
				isCount(t, s.what, s.g, spoilt, byFront(s.g))
			} else {
				isRefused(t, s.what, s.g, spoilt, make([]bool, len(s.g.E)), k)
			}
		}
	}
	if counts[api.OK] == 0 || counts[api.BadRotation] == 0 {
		t.Errorf("systems in the plane and such as are not are asked for: %v", counts)
	}
}

// P1703: of what is wrong in two ways the kind that the chapter names first: TooLarge comes behind all that Plane says.
func TestOrderOfKinds(t *testing.T) {
	many := copies(1+api.MaxCount/4, ring(4))
	large := of(many)
	isUncounted(t, "too large alone", large, many, api.TooLarge)
	other := api.Graph{N: large.N, E: slices.Clone(large.E)}
	other.E[0].U, other.E[0].V = other.E[0].V, other.E[0].U
	wrong := beside(many, bagel(3, 3))
	missing := slices.Clone(many)
	missing[7] = nil
	twisted := beside(many, rising(all(4)))
	for _, c := range []struct {
		what string
		g    api.Graph
		r    [][]int
		want api.Kind
	}{
		{"not right, no system, too large", other, missing, api.BadArg},
		{"not right, not in the plane, too large", other, wrong, api.BadArg},
		{"not right, too large", other, many, api.BadArg},
		{"more vertices than a graph may have", api.Graph{N: api.MaxN + 1}, alone(api.MaxN + 1), api.BadArg},
		{"no system, too large", large, missing, api.BadRotation},
		{"no list at all, too large", large, nil, api.BadRotation},
		{"a list too many, too large", large, append(slices.Clone(many), nil), api.BadRotation},
		{"no edge, no list, too large", api.Graph{N: api.MaxCount + 1}, nil, api.BadRotation},
		{"no edge, a list that is missing, too large", api.Graph{N: api.MaxCount + 1}, alone(api.MaxCount), api.BadRotation},
		{"not in the plane, too large", of(wrong), wrong, api.BadRotation},
		{"not in the plane, though planar, too large", of(twisted), twisted, api.BadRotation},
	} {
		isUncounted(t, c.what, c.g, c.r, c.want)
	}
}
