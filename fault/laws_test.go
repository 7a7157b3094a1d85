package fault_test

import (
	"fmt"
	"strings"
	"testing"

	"filigree/api"
	"filigree/fault"
)

// P304: wrapped again and again, an error is still of its kind, and tells each place.
func TestLaws(t *testing.T) {
	names := []string{"request", "line", "", "edge", "line"}
	for _, k := range kinds() {
		var places []place
		err := error(k)
		text := k.Error()
		for i := range 40 {
			p := place{names[(i*i+int(k&7))%len(names)], i*i - 50}
			places = append([]place{p}, places...)
			err = fault.Wrap(p.where, p.at, err)
			text = fmt.Sprintf("%s %d: %s", p.where, p.at, text)
			isOf(t, text, err, k)
			isTrail(t, text, err, places...)
			isText(t, "Error", err.Error(), text)
		}
	}
}

// P304: as many parts nested as the document's bound allows.
func TestDeep(t *testing.T) {
	const depth = 1 << 16
	places := make([]place, depth)
	var text strings.Builder
	for i := range places {
		places[i] = place{"step", i}
		fmt.Fprintf(&text, "step %d: ", i)
	}
	places[depth-2].where = "last but one"
	want := strings.Replace(text.String(), fmt.Sprintf("step %d: ", depth-2), fmt.Sprintf("last but one %d: ", depth-2), 1)
	err := wrapped(api.NotExact, places...)
	isOf(t, "deep", err, api.NotExact)
	if got := fault.Place(err, "last but one"); got != depth-2 {
		t.Errorf("Place: %d", got)
	}
	if got := fault.Place(err, "step"); got != 0 {
		t.Errorf("Place: %d", got)
	}
	if got := fault.Trail(err); len(got) != depth || got[depth-2] != "last but one" || got[depth-1] != "step" {
		t.Errorf("Trail: %d of them", len(got))
	}
	if err.Error() != want+api.NotExact.Error() {
		t.Error("Error: not each place's text in its order")
	}
	isOfNone(t, "deep, of no kind", wrapped(odd{1}, places...))
}

// Rule 1: an error whose own methods panic makes no call panic.
func TestBroken(t *testing.T) {
	for _, inner := range []error{broken{}, (*broken)(nil)} {
		isOfNone(t, "broken", inner)
		isTrail(t, "broken", inner)
		err := wrapped(inner, place{"x", 1}, place{"y", 2})
		isOfNone(t, "broken, wrapped", err)
		isTrail(t, "broken, wrapped", err, place{"x", 1}, place{"y", 2})
		isText(t, "Error", err.Error(), "x 1: y 2: ")
	}
}

// Rule 1: calls end on a *Fault that wraps itself, and tell each place once.
func TestRing(t *testing.T) {
	alone := &fault.Fault{Where: "x", At: 1}
	alone.Err = alone
	isOfNone(t, "alone", alone)
	isTrail(t, "alone", alone, place{"x", 1})
	isText(t, "Error", alone.Error(), "x 1: ")

	inner := &fault.Fault{Where: "c", At: 3}
	middle := &fault.Fault{Where: "b", At: 2, Err: inner}
	inner.Err = middle
	err := fault.Wrap("a", 1, middle)
	isOfNone(t, "a ring", err)
	isTrail(t, "a ring", err, place{"a", 1}, place{"b", 2}, place{"c", 3})
	isText(t, "Error", err.Error(), "a 1: b 2: c 3: ")
}

// Equal ones are not the same one: a place that is told twice is no ring.
func TestEqualPlaces(t *testing.T) {
	err := wrapped(api.Loop, place{"x", 1}, place{"x", 1}, place{"x", 1})
	isOf(t, "equal places", err, api.Loop)
	isTrail(t, "equal places", err, place{"x", 1}, place{"x", 1}, place{"x", 1})
	isText(t, "Error", err.Error(), "x 1: x 1: x 1: filigree error 6")
}
