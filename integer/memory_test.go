package integer_test

import (
	"fmt"
	"slices"
	"testing"

	"filigree/api"
	"filigree/integer"
)

// call is a function of the package, with all numbers that it answers.
type call func(a, b api.Int) []api.Int

// calls is each function of the package that takes or gives numbers.
func calls() map[string]call {
	return map[string]call{
		"Of":   func(a, b api.Int) []api.Int { return []api.Int{integer.Of(-1 << 40)} },
		"Norm": func(a, b api.Int) []api.Int { return []api.Int{integer.Norm(a)} },
		"Cmp":  func(a, b api.Int) []api.Int { return []api.Int{integer.Of(int64(integer.Cmp(a, b)))} },
		"Neg":  func(a, b api.Int) []api.Int { return []api.Int{integer.Neg(a)} },
		"Add":  func(a, b api.Int) []api.Int { return []api.Int{integer.Add(a, b)} },
		"Sub":  func(a, b api.Int) []api.Int { return []api.Int{integer.Sub(a, b)} },
		"Mul":  func(a, b api.Int) []api.Int { return []api.Int{integer.Mul(a, b)} },
		"DivMod": func(a, b api.Int) []api.Int {
			q, r, _ := integer.DivMod(a, b)
			return []api.Int{q, r}
		},
		"Exact":             func(a, b api.Int) []api.Int { q, _ := integer.Exact(a, b); return []api.Int{q} },
		"Exact of multiple": func(a, b api.Int) []api.Int { q, _ := integer.Exact(integer.Mul(a, b), b); return []api.Int{q} },
		"Sqrt":              func(a, b api.Int) []api.Int { root, _ := integer.Sqrt(a); return []api.Int{root} },
		"Sqrt of square":    func(a, b api.Int) []api.Int { root, _ := integer.Sqrt(integer.Mul(a, a)); return []api.Int{root} },
		"Text":              func(a, b api.Int) []api.Int { n, _ := integer.Parse(integer.Text(a)); return []api.Int{n} },
	}
}

// spacious is the same number, with spare room behind its limbs, and the whole of both.
func spacious(a api.Int) (number api.Int, whole []uint32) {
	whole = append(slices.Clone(a.Mag), 77, 78, 79, 80)
	return api.Int{Neg: a.Neg, Mag: whole[:len(a.Mag)]}, whole
}

// spoil writes over a number's limbs and their spare room.
func spoil(a api.Int) {
	limbs := a.Mag[:cap(a.Mag)]
	for i := range limbs {
		limbs[i] ^= 0xa5a5a5a5
	}
}

// Rule 4: what is handed in stays as it is, its spare room too, and what is handed out is memory of its own, its spare room too.
func TestMemory(t *testing.T) {
	for name, call := range calls() {
		for _, p := range pairs(8, 100) {
			a, wholeA := spacious(p[0])
			b, wholeB := spacious(p[1])
			before := fmt.Sprint(wholeA, wholeB)
			answer := call(a, b)
			told := fmt.Sprint(answer)
			for i, number := range answer {
				others := fmt.Sprint(answer[:i], answer[i+1:])
				spoil(number)
				if fmt.Sprint(answer[:i], answer[i+1:]) != others {
					t.Fatalf("%s(%v, %v): two answers share memory", name, p[0], p[1])
				}
			}
			if fmt.Sprint(wholeA, wholeB) != before {
				t.Fatalf("%s(%v, %v): an argument was changed", name, p[0], p[1])
			}
			if again := fmt.Sprint(call(a, b)); again != told {
				t.Fatalf("%s(%v, %v): %s, and then %s", name, p[0], p[1], told, again)
			}
		}
	}
}
