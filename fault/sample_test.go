package fault_test

import (
	"errors"
	"slices"
	"testing"

	"filigree/api"
	"filigree/fault"
)

// place is where a *Fault came from.
type place struct {
	where string
	at    int
}

// wrapped is err, wrapped at each of these places, the outermost first.
func wrapped(err error, places ...place) error {
	for _, p := range slices.Backward(places) {
		err = fault.Wrap(p.where, p.at, err)
	}
	return err
}

// wheres is where these places are.
func wheres(places []place) []string {
	var names []string
	for _, p := range places {
		names = append(names, p.where)
	}
	return names
}

// first is at of the first of these places of that name, or -1.
func first(places []place, where string) int {
	for _, p := range places {
		if p.where == where {
			return p.at
		}
	}
	return -1
}

// kinds is each kind of an error but OK, and numbers that are no kind's.
func kinds() []api.Kind {
	all := []api.Kind{-1, 19, 1000}
	for k := api.BadArg; k <= api.BadRequest; k++ {
		all = append(all, k)
	}
	return all
}

// isText fails the test unless got is want.
func isText(t *testing.T, what, got, want string) {
	t.Helper()
	if got != want {
		t.Errorf("%s: %q, not %q", what, got, want)
	}
}

// isOf fails the test unless err is of kind k, and of no other kind.
func isOf(t *testing.T, what string, err error, k api.Kind) {
	t.Helper()
	if got := fault.Of(err); got != k {
		t.Errorf("Of(%s): %d, not %d", what, int(got), int(k))
	}
	for _, other := range append(kinds(), api.OK) {
		if got := fault.Is(err, other); got != (other == k) {
			t.Errorf("Is(%s, %d): %v", what, int(other), got)
		}
	}
}

// isOfNone fails the test unless err is of no kind.
func isOfNone(t *testing.T, what string, err error) {
	t.Helper()
	if got := fault.Of(err); got != api.BadArg {
		t.Errorf("Of(%s): %d, not BadArg", what, int(got))
	}
	for _, k := range append(kinds(), api.OK) {
		if fault.Is(err, k) {
			t.Errorf("Is(%s, %d)", what, int(k))
		}
	}
}

// isTrail fails the test unless Trail and Place tell these places, and no other one.
func isTrail(t *testing.T, what string, err error, places ...place) {
	t.Helper()
	if got, want := fault.Trail(err), wheres(places); !slices.Equal(got, want) {
		t.Errorf("Trail(%s): %q, not %q", what, got, want)
	}
	for _, name := range append(wheres(places), "", "nowhere", "line", " ", "Line") {
		if got, want := fault.Place(err, name), first(places, name); got != want {
			t.Errorf("Place(%s, %q): %d, not %d", what, name, got, want)
		}
	}
}

// odd is an error that is no api.Kind, and can't be compared.
type odd []int

func (o odd) Error() string { return "odd" }

// broken is an error all of whose methods panic.
type broken struct{}

func (broken) Error() string { panic("no text") }
func (broken) Unwrap() error { panic("nothing inside") }
func (broken) Is(error) bool { panic("no likeness") }
func (broken) As(any) bool   { panic("no likeness") }

// strangers is errors that are no api.Kind and no *Fault.
func strangers() []error {
	return []error{errors.New("odd"), odd{1}, odd(nil), errors.Join(errors.New("a"), errors.New("b"))}
}
