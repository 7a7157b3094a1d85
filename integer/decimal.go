package integer

import (
	"strings"

	"filigree/api"
	"filigree/natural"
)

// minus stands ahead of the digits of a number below 0.
const minus = "-"

// Text answers the decimal digits of a, with a minus ahead if it is below 0.
func Text(a api.Int) string {
	if sign(a) < 0 {
		return minus + natural.Text(a.Mag)
	}
	return natural.Text(a.Mag)
}

// Parse answers the number that s tells as Text would, or BadNumber if Text tells no number so.
func Parse(s string) (api.Int, api.Kind) {
	digits, neg := strings.CutPrefix(s, minus)
	magnitude, k := natural.Parse(digits)
	switch {
	case k != api.OK:
		return api.Int{}, k
	case neg && len(magnitude) == 0: // Text tells 0 without a minus
		return api.Int{}, api.BadNumber
	}
	return signed(neg, magnitude), api.OK
}
