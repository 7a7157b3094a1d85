package natural_test

import (
	"fmt"
	"slices"
	"testing"

	"filigree/natural"
)

// calls is each function of the package that takes or gives lists, with all lists that it answers.
func calls() map[string]func(a, b []uint32) [][]uint32 {
	return map[string]func(a, b []uint32) [][]uint32{
		"Of":   func(a, b []uint32) [][]uint32 { return [][]uint32{natural.Of(1 << 40)} },
		"Norm": func(a, b []uint32) [][]uint32 { return [][]uint32{natural.Norm(a)} },
		"Cmp":  func(a, b []uint32) [][]uint32 { return [][]uint32{natural.Of(uint64(natural.Cmp(a, b) + 1))} },
		"Add":  func(a, b []uint32) [][]uint32 { return [][]uint32{natural.Add(a, b)} },
		"Sub":  func(a, b []uint32) [][]uint32 { d, _ := natural.Sub(a, b); return [][]uint32{d} },
		"Mul":  func(a, b []uint32) [][]uint32 { return [][]uint32{natural.Mul(a, b)} },
		"DivMod": func(a, b []uint32) [][]uint32 {
			q, r, _ := natural.DivMod(a, b)
			return [][]uint32{q, r}
		},
		"Sqrt": func(a, b []uint32) [][]uint32 { return [][]uint32{natural.Sqrt(a)} },
		"Text": func(a, b []uint32) [][]uint32 { n, _ := natural.Parse(natural.Text(a)); return [][]uint32{n} },
		"Parse": func(a, b []uint32) [][]uint32 {
			n, _ := natural.Parse("123456789012345678901234567890")
			return [][]uint32{n}
		},
	}
}

// spacious is a list of the same limbs, with spare room behind it, and the whole of both.
func spacious(a []uint32) (list, whole []uint32) {
	whole = append(slices.Clone(a), 77, 78, 79, 80)
	return whole[:len(a)], whole
}

// Rule 4: what is handed in stays as it is, its spare room too, and what is handed out is memory of its own, its spare room too.
func TestMemory(t *testing.T) {
	cases := append(pairs(8, 300), [2][]uint32{{5, 6, 7}, {1}}, [2][]uint32{{5, 6, 7}, nil}, [2][]uint32{nil, {5}})
	for name, call := range calls() {
		for _, c := range cases {
			a, wholeA := spacious(c[0])
			b, wholeB := spacious(c[1])
			before := fmt.Sprint(wholeA, wholeB)
			answer := call(a, b)
			told := fmt.Sprint(answer)
			for i, list := range answer {
				others := fmt.Sprint(answer[:i], answer[i+1:])
				kept := slices.Clone(list)
				spoil(list)
				if fmt.Sprint(answer[:i], answer[i+1:]) != others {
					t.Fatalf("%s(%v, %v): two answers share memory", name, c[0], c[1])
				}
				copy(list, kept)
			}
			for _, list := range answer {
				spoil(list)
			}
			if fmt.Sprint(wholeA, wholeB) != before {
				t.Fatalf("%s(%v, %v): an argument was changed", name, c[0], c[1])
			}
			if again := fmt.Sprint(call(a, b)); again != told {
				t.Fatalf("%s(%v, %v): %s, and then %s", name, c[0], c[1], told, again)
			}
		}
	}
}

// spoil writes over a list and its spare room.
func spoil(list []uint32) {
	list = list[:cap(list)]
	for i := range list {
		list[i] ^= 0xa5a5a5a5
	}
}
