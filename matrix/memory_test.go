package matrix_test

import (
	"fmt"
	"slices"
	"testing"

	"filigree/api"
	"filigree/matrix"
)

// roomy is the same matrix with marks in the spare room behind each number, each row and the whole, and all of that room.
func roomy(m [][]api.Int) (same, whole [][]api.Int) {
	mark := api.Int{Neg: true, Mag: []uint32{76}}
	for _, row := range m {
		var long []api.Int
		for _, a := range row {
			mag := append(slices.Clone(a.Mag), 77, 78)
			long = append(long, api.Int{Neg: a.Neg, Mag: mag[:len(a.Mag)]})
		}
		whole = append(whole, append(long, mark, mark))
		same = append(same, whole[len(whole)-1][:len(row)])
	}
	same = append(same, []api.Int{mark})
	return same[:len(m)], append(whole, same[len(m)])
}

// allOf is all that is in memory: the numbers of all rows, with their spare room.
func allOf(rows [][]api.Int) string {
	var all []string
	for _, row := range rows {
		for _, a := range row {
			all = append(all, fmt.Sprint(a.Neg, len(a.Mag), a.Mag[:cap(a.Mag)]))
		}
	}
	return fmt.Sprint(all)
}

// Rule 4: what is handed in is not changed, its spare room neither; what is refused neither.
func TestArgumentsStay(t *testing.T) {
	d := dice(1650)
	list := samples(&d, 7)
	for n := range 8 {
		for _, way := range ways(&d) {
			list = append(list, skewOf(n, way))
		}
	}
	list = append(list, rowsOf(2, 3), rowsOf(1, 1), rowsOf(0), nil)
	for _, m := range list {
		same, whole := roomy(unusual(&d, m))
		before, end := allOf(whole), fmt.Sprint(same[:len(m)+1])
		matrix.Square(same)
		matrix.Skew(same)
		matrix.Det(same)
		matrix.Pfaffian(same)
		if got := allOf(whole); got != before || fmt.Sprint(same[:len(m)+1]) != end {
			t.Fatalf("%s: changed: %s, not %s", text(m), got, before)
		}
	}
}

// Rule 4: Of leaves its argument as it is, its spare room too.
func TestListsStay(t *testing.T) {
	row, end := []int64{1, -2, 3, 77, 78}, []int64{79}
	l := [][]int64{row[:3], row[:0], end, end}
	matrix.Of(l[:3])
	if got := fmt.Sprint(l, row, end); got != "[[1 -2 3] [] [79] [79]] [1 -2 3 77 78] [79]" {
		t.Errorf("changed: %s", got)
	}
}

// spoil writes over a number's limbs and their spare room.
func spoil(a api.Int) {
	limbs := a.Mag[:cap(a.Mag)]
	for i := range limbs {
		limbs[i] ^= 0xa5a5a5a5
	}
}

// Rules 4 and 5: what Of hands out is new memory, each row of its own, its spare room too; told again it is the same.
func TestListsAreNew(t *testing.T) {
	l := [][]int64{{1, -2, 1 << 40}, {}, {5, 5}, {0, 0, 7}}
	want := fmt.Sprint(matrix.Of(l))
	mark := api.Int{Neg: true, Mag: []uint32{9}}
	for i := range l {
		m := matrix.Of(l)
		for _, a := range m[i][:cap(m[i])] {
			spoil(a)
		}
		for j := range m[i][:cap(m[i])] {
			m[i][:cap(m[i])][j] = mark
		}
		twin := matrix.Of(l)
		m[i] = twin[i]
		if got := fmt.Sprint(m); got != want {
			t.Fatalf("row %d spoilt: %s, not %s", i, got, want)
		}
		for j := range l[i] {
			m = matrix.Of(l)
			spoil(m[i][j])
			m[i][j] = twin[i][j]
			if got := fmt.Sprint(m); got != want {
				t.Fatalf("number %d, %d spoilt: %s, not %s", i, j, got, want)
			}
		}
	}
	if got := fmt.Sprint(l, matrix.Of(l)); got != "[[1 -2 1099511627776] [] [5 5] [0 0 7]] "+want {
		t.Errorf("told again: %s", got)
	}
}

// Rules 4 and 5: what Det and Pfaffian hand out is new memory; told again it is the same. A number may be in many places.
func TestAnswersAreNew(t *testing.T) {
	d := dice(1651)
	list := samples(&d, 6)
	for n := range 7 {
		for _, way := range ways(&d) {
			list = append(list, skewOf(n, way))
		}
	}
	shared := api.Int{Mag: []uint32{7, 0}}
	row := []api.Int{shared, shared}
	list = append(list, [][]api.Int{row, row}, [][]api.Int{row[:1]}, [][]api.Int{{shared}})
	for _, m := range list {
		before := allOf(m)
		first, _ := matrix.Det(m)
		wantDet := fmt.Sprint(first)
		spoil(first)
		second, _ := matrix.Pfaffian(m)
		wantPfaffian := fmt.Sprint(second)
		spoil(second)
		if got := allOf(m); got != before {
			t.Fatalf("changed: %s, not %s", got, before)
		}
		first, _ = matrix.Det(m)
		second, _ = matrix.Pfaffian(m)
		if fmt.Sprint(first) != wantDet || fmt.Sprint(second) != wantPfaffian {
			t.Fatalf("%s: told again: %v, %v, not %s, %s", text(m), first, second, wantDet, wantPfaffian)
		}
	}
}
