package matrix_test

import (
	"testing"

	"filigree/api"
	"filigree/matrix"
)

// isRefused fails the test unless both kinds are as wanted, with nothing beside BadArg.
func isRefused(t *testing.T, what string, m [][]api.Int, wantDet, wantPfaffian api.Kind) {
	t.Helper()
	d, k := matrix.Det(m)
	if k != wantDet || k != api.OK && (d.Neg || len(d.Mag) > 0) {
		t.Fatalf("%s: Det(%s): %v, kind %d, not %d", what, text(m), d, int(k), int(wantDet))
	}
	p, k := matrix.Pfaffian(m)
	if k != wantPfaffian || k != api.OK && (p.Neg || len(p.Mag) > 0) {
		t.Fatalf("%s: Pfaffian(%s): %v, kind %d, not %d", what, text(m), p, int(k), int(wantPfaffian))
	}
}

// P1602, P1603: what is not square is refused by both, whatever its numbers.
func TestNotSquare(t *testing.T) {
	for _, m := range [][][]api.Int{
		{nil}, {{}}, {nil, nil}, {{}, {}, {}},
		of([]int64{1, 2}), of([]int64{1}, []int64{2}), of([]int64{0}, []int64{0}), of([]int64{0, 0}),
		of([]int64{0, 1}, []int64{-1, 0}, []int64{}), of([]int64{0, 1}, []int64{-1}), of([]int64{0}, []int64{-1, 0}),
		of([]int64{0, 1}, []int64{-1, 0, 0}), of([]int64{0, 1, 0}, []int64{-1, 0}), of([]int64{0, 1, 2}, []int64{-1, 0, 3}),
		of([]int64{0, 1}, []int64{-1, 0}, []int64{0, 0}), of([]int64{}, []int64{0, 1}, []int64{-1, 0}),
		of([]int64{1, 2, 3}, []int64{4, 5, 6}, []int64{7, 8}), of([]int64{0, 0, 0}, []int64{0, 0}, []int64{0}),
		of([]int64{0, 0}, []int64{0, 0, 0}, []int64{0, 0, 0}), of([]int64{1, 2, 3, 4}),
	} {
		isRefused(t, "not square", m, api.BadArg, api.BadArg)
	}
	d := dice(16)
	for _, m := range samples(&d, 7) {
		n := len(m)
		if n == 0 {
			continue
		}
		i := d.below(n)
		whole := m[i]
		m[i] = append(whole[:n:n], d.great(2))
		isRefused(t, "a row too long", m, api.BadArg, api.BadArg)
		m[i] = whole[:n-1]
		isRefused(t, "a row too short", m, api.BadArg, api.BadArg)
		m[i] = whole
		isRefused(t, "a row too many", append(m[:n:n], whole), api.BadArg, api.BadArg)
		if n > 1 {
			isRefused(t, "a row too few", m[1:], api.BadArg, api.BadArg)
		}
	}
}

// P1603: what is square, but not skew, is refused by Pfaffian alone, of an odd number of rows too.
func TestNotSkew(t *testing.T) {
	one := of([]int64{1})[0][0]
	d := dice(16034)
	for n := 1; n < 8; n++ {
		for _, way := range ways(&d) {
			m := skewOf(n, way)
			isRefused(t, "skew", m, api.OK, api.OK)
			for i := range n {
				for j := range n {
					whole := m[i][j]
					m[i][j] = added([]api.Int{whole}, []api.Int{one}, wide(one))[0]
					isRefused(t, "one number that is no negation", m, api.OK, api.BadArg)
					if len(whole.Mag) > 0 {
						m[i][j] = minus(whole)
						isRefused(t, "one sign turned", m, api.OK, api.BadArg)
					}
					m[i][j] = whole
				}
			}
		}
	}
	for _, m := range [][][]api.Int{of([]int64{1}), of([]int64{-1}), of([]int64{0, 1}, []int64{1, 0}), of([]int64{1, 0}, []int64{0, 1}), of([]int64{0, 0, 0}, []int64{0, 0, 0}, []int64{0, 0, 1})} {
		isRefused(t, "not skew", m, api.OK, api.BadArg)
	}
}
