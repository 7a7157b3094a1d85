package pfaffian_test

import (
	"fmt"
	"slices"
	"testing"

	"filigree/api"
	"filigree/pfaffian"
)

// roomy is a copy of lists, each with spare room in which marks stand, and the whole of it.
func roomy(r [][]int) (lists, whole [][]int) {
	for _, list := range r {
		long := append(slices.Clone(list), -77, -78)
		lists = append(lists, long[:len(list)])
		whole = append(whole, long)
	}
	spare := []int{-79}
	lists = append(lists, spare)
	return lists[:len(r)], append(whole, spare)
}

// Rule 4: what is handed in is not changed, its spare room neither; what is refused neither.
func TestArgumentsStay(t *testing.T) {
	d := dice(1760)
	list := samples(11)
	many := copies(1100, ring(4))
	list = append(list, sample{"bagel", of(bagel(3, 4)), bagel(3, 4)}, sample{"no system", of(ring(3)), ring(4)}, sample{"too large", of(many), many})
	for what, g := range wrongs() {
		if len(g.E) < 100 {
			list = append(list, sample{what, g, ring(3)})
		}
	}
	for _, s := range list {
		r, whole := roomy(s.r)
		mark := api.Edge{U: 77, V: 78, W: 79}
		marked := append(slices.Clone(s.g.E), mark, mark)
		g := api.Graph{N: s.g.N, E: marked[:len(s.g.E)]}
		truths := append(d.truths(len(s.g.E)), true, false, true)
		if good, k := pfaffian.Orient(s.g, s.r); k == api.OK && d.below(2) == 0 {
			copy(truths, good)
		}
		want := fmt.Sprint(r[:len(r)+1], whole, marked, truths)
		pfaffian.Orient(g, r)
		pfaffian.Count(g, r)
		for _, along := range [][]bool{truths[:len(s.g.E)], truths} {
			pfaffian.Check(g, r, along)
			if g.N < api.MaxCount {
				pfaffian.Matrix(g, along)
			}
		}
		if got := fmt.Sprint(r[:len(r)+1], whole, marked, truths); got != want {
			t.Fatalf("%s: changed: %s, not %s", s.what, got, want)
		}
	}
}

// spoil writes over a list and its spare room.
func spoil[T any](list []T, mark T) {
	list = list[:cap(list)]
	for i := range list {
		list[i] = mark
	}
}

// answers is the text of all that the package tells.
func answers(s sample, truths []bool) string {
	along, _ := pfaffian.Orient(s.g, s.r)
	m, _ := pfaffian.Matrix(s.g, truths)
	count, _ := pfaffian.Count(s.g, s.r)
	return fmt.Sprint(along, pfaffian.Check(s.g, s.r, truths), m, count)
}

// Rules 4 and 5: what is handed out is new memory; told again it is the same.
func TestAnswersAreNew(t *testing.T) {
	d := dice(1761)
	for _, s := range samples(11) {
		truths := d.truths(len(s.g.E))
		before, want := fmt.Sprint(s, truths), answers(s, truths)
		for _, mark := range []bool{false, true} {
			along, _ := pfaffian.Orient(s.g, s.r)
			spoil(along, mark)
			m, _ := pfaffian.Matrix(s.g, truths)
			for _, row := range m {
				for _, number := range row {
					spoil(number.Mag, 99)
				}
				spoil(row, api.Int{Neg: mark, Mag: []uint32{7}})
			}
			spoil(m, nil)
			count, _ := pfaffian.Count(s.g, s.r)
			spoil(count.Mag, 99)
			if got := fmt.Sprint(s, truths); got != before {
				t.Fatalf("%s: changed: %s, not %s", s.what, got, before)
			}
			if again := answers(s, truths); again != want {
				t.Fatalf("%s: told again: %s, not %s", s.what, again, want)
			}
		}
	}
}

// Rule 4: no two rows of a matrix, and no two numbers of it, share memory, spare room neither.
func TestRowsAreApart(t *testing.T) {
	for _, r := range [][][]int{way(2), ring(5), wheel(6), icosahedron(), beside(ring(4), alone(2), ring(3))} {
		g := of(r)
		along, _ := pfaffian.Orient(g, r)
		for u := range g.N {
			m, _ := pfaffian.Matrix(g, along)
			others := func() string { return fmt.Sprint(m[:u], m[u+1:]) }
			want := others()
			spoil(m[u], api.Int{Mag: []uint32{7}})
			if got := others(); got != want {
				t.Fatalf("row %d is shared: %s, not %s", u, got, want)
			}
			for v := range g.N {
				m, _ := pfaffian.Matrix(g, along)
				own := m[u][v]
				m[u][v] = api.Int{}
				want := fmt.Sprint(m)
				spoil(own.Mag, 99)
				_ = append(own.Mag, 98)
				if got := fmt.Sprint(m); got != want {
					t.Fatalf("the number at %d, %d is shared: %s, not %s", u, v, got, want)
				}
			}
		}
	}
}
