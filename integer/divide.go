package integer

import (
	"filigree/api"
	"filigree/natural"
)

// DivMod answers q and r with q times b and r as a, where r is from 0 to below b without its sign; or DivZero if b is 0.
func DivMod(a, b api.Int) (q, r api.Int, k api.Kind) {
	quotient, rest, k := natural.DivMod(a.Mag, b.Mag)
	switch {
	case k != api.OK:
		return api.Int{}, api.Int{}, k
	case a.Neg && len(rest) > 0: // a rest below 0 won't do: one more b makes it one above
		quotient = natural.Add(quotient, natural.Of(1))
		rest, _ = natural.Sub(b.Mag, rest)
		fallthrough
	default:
		return signed(a.Neg != b.Neg, quotient), signed(false, rest), api.OK
	}
}

// Exact answers the quotient of a by b, or DivZero if b is 0, or NotExact if there is a rest.
func Exact(a, b api.Int) (api.Int, api.Kind) {
	quotient, rest, k := natural.DivMod(a.Mag, b.Mag)
	switch {
	case k != api.OK:
		return api.Int{}, k
	case len(rest) > 0:
		return api.Int{}, api.NotExact
	}
	return signed(a.Neg != b.Neg, quotient), api.OK
}

// Sqrt answers the root of a that is not below 0, or Negative if a is below 0, or NotExact if a is no square.
func Sqrt(a api.Int) (api.Int, api.Kind) {
	if sign(a) < 0 {
		return api.Int{}, api.Negative
	}
	root := natural.Sqrt(a.Mag)
	if natural.Cmp(natural.Mul(root, root), a.Mag) != 0 {
		return api.Int{}, api.NotExact
	}
	return signed(false, root), api.OK
}
