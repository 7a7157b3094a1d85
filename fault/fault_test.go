package fault_test

import (
	"errors"
	"fmt"
	"math"
	"testing"

	"filigree/api"
	"filigree/fault"
)

// P301: the text of a *Fault, with the chapter's example.
func TestError(t *testing.T) {
	for _, c := range []struct {
		err  error
		want string
	}{
		{fault.Wrap("line", 3, api.Loop), "line 3: filigree error 6"},
		{wrapped(api.Loop, place{"request", 2}, place{"line", 3}), "request 2: line 3: filigree error 6"},
		{wrapped(api.BadRequest, place{"a", 10}, place{"b", 20}, place{"a", 30}), "a 10: b 20: a 30: filigree error 18"},
		{fault.Wrap("", 0, api.Twice), " 0: filigree error 7"},
		{fault.Wrap("at", -1, api.BadArg), "at -1: filigree error 1"},
		{fault.Wrap("two words: ", 1, api.BadArg), "two words:  1: filigree error 1"},
		{fault.Wrap("\xff\x00\n", 1, api.BadArg), "\xff\x00\n 1: filigree error 1"},
		{fault.Wrap("x", math.MinInt, api.BadArg), "x -9223372036854775808: filigree error 1"},
		{fault.Wrap("x", math.MaxInt, api.BadArg), "x 9223372036854775807: filigree error 1"},
		{fault.Wrap("x", 1, errors.New("")), "x 1: "},
		{fault.Wrap("x", 1, errors.New("odd")), "x 1: odd"},
		{fault.Wrap("x", 1, odd{1}), "x 1: odd"},
		{fault.Wrap("x", 1, fmt.Errorf("odd: %w", fault.Wrap("y", 2, api.Loop))), "x 1: odd: y 2: filigree error 6"},
		{&fault.Fault{Where: "x", At: 1, Err: api.OK}, "x 1: filigree error 0"},
	} {
		isText(t, "Error", c.err.Error(), c.want)
	}
}

// P301: the text and the inside of a nil *Fault, and of ones that wrap nothing.
func TestErrorOfNothing(t *testing.T) {
	var none *fault.Fault
	isText(t, "Error of nil", none.Error(), "")
	if got := none.Unwrap(); got != nil {
		t.Errorf("Unwrap of nil: %v", got)
	}
	bare := &fault.Fault{Where: "x", At: 1}
	isText(t, "Error, nothing wrapped", bare.Error(), "x 1: ")
	if got := bare.Unwrap(); got != nil {
		t.Errorf("Unwrap, nothing wrapped: %v", got)
	}
	isText(t, "Error of the zero Fault", new(fault.Fault).Error(), " 0: ")
	isText(t, "Error, nothing wrapped far inside", fault.Wrap("y", 2, bare).Error(), "y 2: x 1: ")
	isText(t, "Error, a nil *Fault wrapped", fault.Wrap("y", 2, none).Error(), "y 2: ")
}

// P301: Unwrap answers Err itself, and so does the library's.
func TestUnwrap(t *testing.T) {
	inner := errors.New("odd")
	f := &fault.Fault{Where: "x", At: 1, Err: inner}
	if f.Unwrap() != inner || errors.Unwrap(f) != inner {
		t.Errorf("Unwrap: %v", f.Unwrap())
	}
	outer := fault.Wrap("y", 2, f)
	if errors.Unwrap(outer) != f {
		t.Errorf("Unwrap: %v", errors.Unwrap(outer))
	}
}

// P301: Wrap answers nil, no *Fault that is nil, just of nil and of OK.
func TestWrapNothing(t *testing.T) {
	for _, at := range []int{0, 1, -1, math.MinInt, math.MaxInt} {
		for _, where := range []string{"", "x"} {
			if got := fault.Wrap(where, at, nil); got != nil {
				t.Errorf("Wrap of nil: %v", got)
			}
			if got := fault.Wrap(where, at, api.OK); got != nil {
				t.Errorf("Wrap of OK: %v", got)
			}
		}
	}
}

// P301: Wrap answers a *Fault of what it is given.
func TestWrap(t *testing.T) {
	inner := []error{fault.Wrap("y", 2, api.Loop), &fault.Fault{}, &fault.Fault{Err: api.OK}, (*fault.Fault)(nil), errors.New("odd")}
	for _, k := range kinds() {
		inner = append(inner, k)
	}
	for _, err := range inner {
		for _, p := range []place{{"x", 1}, {"", 0}, {"x", -1}, {"x", math.MinInt}, {"x", math.MaxInt}} {
			f, ok := fault.Wrap(p.where, p.at, err).(*fault.Fault)
			if !ok || f == nil {
				t.Fatalf("Wrap of %v: no *Fault", err)
			}
			if f.Where != p.where || f.At != p.at || f.Err != err {
				t.Errorf("Wrap(%q, %d, %v): %+v", p.where, p.at, err, *f)
			}
		}
	}
	if fault.Wrap("x", 1, api.Loop) == fault.Wrap("x", 1, api.Loop) {
		t.Error("Wrap hands out one *Fault twice")
	}
}

// P302: Of and Is of kinds, bare and wrapped.
func TestOfAndIs(t *testing.T) {
	for _, k := range kinds() {
		isOf(t, "a kind", k, k)
		isOf(t, "a kind wrapped once", fault.Wrap("x", 1, k), k)
		isOf(t, "a kind wrapped thrice", wrapped(k, place{"x", 1}, place{"y", -1}, place{"x", 2}), k)
	}
}

// P302: Of and Is of nil; nil alone is of kind OK by Is.
func TestOfAndIsOfNil(t *testing.T) {
	isOf(t, "nil", nil, api.OK)
	for _, err := range []error{api.OK, &fault.Fault{Where: "x", At: 1, Err: api.OK}} {
		if got := fault.Of(err); got != api.OK {
			t.Errorf("Of(%v): %d", err, int(got))
		}
		for _, k := range append(kinds(), api.OK) {
			if fault.Is(err, k) {
				t.Errorf("Is(%v, %d)", err, int(k))
			}
		}
	}
}

// P302: errors that are no kind at all, bare and wrapped.
func TestOfNoKind(t *testing.T) {
	for _, err := range append(strangers(), (*fault.Fault)(nil), &fault.Fault{}, &fault.Fault{Where: "x", At: 1}) {
		isOfNone(t, "no kind", err)
		isOfNone(t, "no kind wrapped once", fault.Wrap("x", 1, err))
		isOfNone(t, "no kind wrapped twice", wrapped(err, place{"x", 1}, place{"y", 2}))
	}
}

// P302: the library's As and Is see through what others wrap, and so do Of and Is.
func TestOfWhatOthersWrap(t *testing.T) {
	for _, k := range kinds() {
		isOf(t, "a kind wrapped by another", fmt.Errorf("odd: %w", k), k)
		isOf(t, "a *Fault wrapped by another", fault.Wrap("y", 2, fmt.Errorf("odd: %w", fault.Wrap("x", 1, k))), k)
	}
	joined := fault.Wrap("x", 1, errors.Join(errors.New("odd"), api.Loop, api.Twice))
	if fault.Of(joined) != api.Loop || !fault.Is(joined, api.Loop) || !fault.Is(joined, api.Twice) || fault.Is(joined, api.BadArg) {
		t.Errorf("joined kinds: %d", int(fault.Of(joined)))
	}
}

// P302: the library itself tells the kind and the *Fault of what Wrap answers.
func TestLibraryTells(t *testing.T) {
	err := wrapped(api.Loop, place{"request", 2}, place{"line", 3})
	var k api.Kind
	if !errors.As(err, &k) || k != api.Loop || !errors.Is(err, api.Loop) || errors.Is(err, api.Twice) {
		t.Errorf("the library tells %d", int(k))
	}
	var f *fault.Fault
	if !errors.As(err, &f) || f.Where != "request" || f.At != 2 {
		t.Errorf("the library tells %+v", f)
	}
}

// P303: Trail and Place of places of several names, some of them more than once.
func TestTrailAndPlace(t *testing.T) {
	for _, places := range [][]place{
		{},
		{{"line", 3}},
		{{"request", 2}, {"line", 3}},
		{{"line", 1}, {"request", 2}, {"line", 3}},
		{{"x", 1}, {"x", 2}, {"y", 4}, {"x", 3}, {"y", 5}},
		{{"", 0}}, {{"", 7}, {"x", 1}}, {{"x", 1}, {"", -7}, {"", 8}},
		{{"x", -1}, {"x", 5}}, {{"x", 5}, {"x", -1}}, {{"y", 1}, {"x", -1}, {"x", 5}},
		{{"x", math.MinInt}, {"y", math.MaxInt}}, {{"y", math.MinInt}, {"y", math.MaxInt}},
	} {
		for _, err := range append(strangers(), api.Loop, (*fault.Fault)(nil)) {
			isTrail(t, fmt.Sprint(places), wrapped(err, places...), places...)
		}
	}
	isTrail(t, "nil", nil)
	isTrail(t, "OK", api.OK)
	isTrail(t, "the zero Fault", &fault.Fault{}, place{"", 0})
	isTrail(t, "a *Fault of nothing", &fault.Fault{Where: "x", At: 4}, place{"x", 4})
	isTrail(t, "a *Fault of OK", &fault.Fault{Where: "x", At: 4, Err: api.OK}, place{"x", 4})
}

// P303: the chain ends with the first error that is no *Fault, whatever that wraps.
func TestTrailEnds(t *testing.T) {
	between := fmt.Errorf("odd: %w", fault.Wrap("line", 3, api.Loop))
	isTrail(t, "wrapped by another", between)
	isTrail(t, "wrapped around another", fault.Wrap("x", 1, between), place{"x", 1})
	isTrail(t, "joined", fault.Wrap("x", 1, errors.Join(fault.Wrap("line", 3, api.Loop))), place{"x", 1})
}

// Rule 4: what is written into a trail, its spare room too, nobody sees.
func TestTrailIsNew(t *testing.T) {
	places := []place{{"a", 1}, {"b", 2}, {"c", 3}}
	err := wrapped(api.Loop, places...)
	trail := fault.Trail(err)
	trail = trail[:cap(trail)]
	for i := range trail {
		trail[i] = "spoilt"
	}
	isTrail(t, "a trail that was spoilt", err, places...)
	isText(t, "Error", err.Error(), "a 1: b 2: c 3: filigree error 6")
}
