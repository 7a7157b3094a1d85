package matrix_test

import (
	"math/big"
	"testing"

	"filigree/api"
)

// everyOrder tells each order of 0 to n - 1, and its sign.
func everyOrder(n int, tell func(order []int, sign int64)) {
	order := make([]int, n)
	for i := range order {
		order[i] = i
	}
	var from func(at int, sign int64)
	from = func(at int, sign int64) {
		if at == n {
			tell(order, sign)
			return
		}
		for other := at; other < n; other++ {
			order[at], order[other] = order[other], order[at]
			if other == at {
				from(at+1, sign)
			} else {
				from(at+1, -sign)
			}
			order[at], order[other] = order[other], order[at]
		}
	}
	from(0, 1)
}

// detOf is the determinant by the words: the sum over all orders.
func detOf(m [][]api.Int) *big.Int {
	numbers := wides(m)
	sum := new(big.Int)
	everyOrder(len(m), func(order []int, sign int64) {
		product := big.NewInt(sign)
		for i, j := range order {
			product.Mul(product, numbers[i][j])
		}
		sum.Add(sum, product)
	})
	return sum
}

// everyPairing tells each way to part 0 to n - 1 into pairs: the order i1 j1 i2 j2 ...
func everyPairing(n int, tell func(order []int)) {
	var order []int
	used := make([]bool, n)
	var goOn func()
	goOn = func() {
		i := 0
		for i < n && used[i] {
			i++
		}
		if i == n {
			tell(order)
			return
		}
		used[i] = true
		for j := i + 1; j < n; j++ {
			if !used[j] {
				used[j] = true
				order = append(order, i, j)
				goOn()
				order = order[:len(order)-2]
				used[j] = false
			}
		}
		used[i] = false
	}
	goOn()
}

// signOf is the sign of an order: -1 to how many pairs stand the wrong way round.
func signOf(order []int) int64 {
	sign := int64(1)
	for j := range order {
		for i := range j {
			if order[i] > order[j] {
				sign = -sign
			}
		}
	}
	return sign
}

// pfaffianOf is the Pfaffian by the words, with its sign: the sum over all ways to part the rows into pairs.
func pfaffianOf(m [][]api.Int) *big.Int {
	sum := new(big.Int)
	if len(m)%2 == 1 {
		return sum
	}
	numbers := wides(m)
	everyPairing(len(m), func(order []int) {
		product := big.NewInt(signOf(order))
		for at := 0; at < len(order); at += 2 {
			product.Mul(product, numbers[order[at]][order[at+1]])
		}
		sum.Add(sum, product)
	})
	return sum
}

// wides is all numbers of a matrix.
func wides(m [][]api.Int) [][]*big.Int {
	var rows [][]*big.Int
	for _, row := range m {
		var numbers []*big.Int
		for _, a := range row {
			numbers = append(numbers, wide(a))
		}
		rows = append(rows, numbers)
	}
	return rows
}

// detByFractions is the determinant by the library's fractions, for what has too many orders.
func detByFractions(m [][]api.Int) *big.Int {
	n := len(m)
	rows := make([][]*big.Rat, n)
	for i, row := range wides(m) {
		for _, number := range row {
			rows[i] = append(rows[i], new(big.Rat).SetInt(number))
		}
	}
	product := big.NewRat(1, 1)
	for at := range n {
		first := at
		for first < n && rows[first][at].Sign() == 0 {
			first++
		}
		if first == n {
			return new(big.Int)
		}
		if first != at {
			rows[first], rows[at] = rows[at], rows[first]
			product.Neg(product)
		}
		product.Mul(product, rows[at][at])
		for i := at + 1; i < n; i++ {
			factor := new(big.Rat).Quo(rows[i][at], rows[at][at])
			for j := at; j < n; j++ {
				rows[i][j] = new(big.Rat).Sub(rows[i][j], new(big.Rat).Mul(factor, rows[at][j]))
			}
		}
	}
	return product.Num()
}

// The tests' own words: the sum over all orders is what fractions tell, and the signs of orders are as they turn.
func TestWordsAgree(t *testing.T) {
	d := dice(1601)
	for n := range 7 {
		for _, way := range ways(&d) {
			m := made(n, way)
			if a, b := detOf(m), detByFractions(m); a.Cmp(b) != 0 {
				t.Fatalf("%s: %v by all orders, %v by fractions", text(m), a, b)
			}
		}
		count := 0
		everyOrder(n, func(order []int, sign int64) {
			count++
			if signOf(order) != sign {
				t.Fatalf("%v: %d", order, sign)
			}
		})
		if want := []int{1, 1, 2, 6, 24, 120, 720}[n]; count != want {
			t.Fatalf("%d orders of %d", count, n)
		}
		count = 0
		everyPairing(n, func(order []int) { count++ })
		if want := []int{1, 0, 1, 0, 3, 0, 15}[n]; count != want {
			t.Fatalf("%d ways to part %d", count, n)
		}
	}
}
