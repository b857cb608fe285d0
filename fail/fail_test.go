package fail_test

import (
	"errors"
	"fmt"
	"math"
	"runtime"
	"testing"

	"truchman/api"
	"truchman/fail"
)

// names has what chapter 1 lists, in the order of the numbers.
var names = []string{"ok", "arg", "form", "more", "deep", "large", "float", "range", "kind", "utf", "stage", "budget", "time", "cancel", "state", "full"}

// wrapper holds an error that is only to be had by Unwrap.
type wrapper struct{ inner error }

func (w wrapper) Error() string { return w.inner.Error() }
func (w wrapper) Unwrap() error { return w.inner }

// byValue has the fields of a Failure, and is none.
type byValue fail.Failure

func (byValue) Error() string { return "deep at 3" }

// strangers are errors that are no *Failure.
func strangers() []error {
	return []error{
		errors.New("deep at 3"),
		wrapper{fail.New(api.ErrDeep, 3)},
		fmt.Errorf("within: %w", fail.New(api.ErrDeep, 3)),
		byValue{Errno: api.ErrDeep, At: 3},
		&byValue{Errno: api.ErrDeep, At: 3},
	}
}

// nilFailure is an error that is not nil, of a Failure that is.
func nilFailure() error {
	var f *fail.Failure
	return f
}

// places are At's ordinary ones and its edges.
var places = []int{0, 1, 3, -1, -2, 1 << 31, math.MaxInt, math.MinInt}

func TestP101NewOfOKIsNil(t *testing.T) {
	for _, at := range places {
		if err := fail.New(api.OK, at); err != nil {
			t.Errorf("New(OK, %d) = %v, not nil", at, err)
		}
	}
}

func TestP101NewKeepsBoth(t *testing.T) {
	for e := api.Errno(-2); e <= 20; e++ {
		for _, at := range places {
			if e == api.OK {
				continue
			}
			f, ok := fail.New(e, at).(*fail.Failure)
			if !ok || f == nil {
				t.Fatalf("New(%d, %d) is no *Failure", e, at)
			}
			if f.Errno != e || f.At != at {
				t.Errorf("New(%d, %d) has %d, %d", e, at, f.Errno, f.At)
			}
		}
	}
}

func TestP101NewIsNewEachTime(t *testing.T) {
	a, b := fail.Must(fail.New(api.ErrForm, 1)), fail.Must(fail.New(api.ErrForm, 1))
	a.Errno, a.At = api.ErrKind, 9
	if b.Errno != api.ErrForm || b.At != 1 {
		t.Errorf("two answers share memory: %v", b)
	}
}

func TestP101Errno(t *testing.T) {
	for e := api.Errno(-2); e <= 20; e++ {
		if got := fail.Errno(fail.New(e, 7)); got != e {
			t.Errorf("Errno of New(%d, 7) = %d", e, got)
		}
	}
	if got := fail.Errno(&fail.Failure{At: 4}); got != api.OK {
		t.Errorf("Errno of a zero Failure = %d, not OK", got)
	}
	if got := fail.Errno(nil); got != api.OK {
		t.Errorf("Errno(nil) = %d, not OK", got)
	}
	if got := fail.Errno(nilFailure()); got != api.ErrState {
		t.Errorf("Errno of a nil *Failure = %d, not ErrState", got)
	}
	for _, err := range strangers() {
		if got := fail.Errno(err); got != api.ErrState {
			t.Errorf("Errno of a %T = %d, not ErrState", err, got)
		}
	}
}

func TestP101At(t *testing.T) {
	for _, at := range places {
		if got, ok := fail.At(fail.New(api.ErrUtf, at)); got != at || !ok {
			t.Errorf("At of New(ErrUtf, %d) = %d, %t", at, got, ok)
		}
	}
	if got, ok := fail.At(&fail.Failure{At: 4}); got != 4 || !ok {
		t.Errorf("At of a Failure of OK = %d, %t", got, ok)
	}
	for _, err := range append(strangers(), nil, nilFailure()) {
		if got, ok := fail.At(err); got != 0 || ok {
			t.Errorf("At of a %T = %d, %t, not 0, false", err, got, ok)
		}
	}
}

// panicOf tells what Must panics with, of err.
func panicOf(err error) (p any) {
	defer func() { p = recover() }()
	fail.Must(err)
	return nil
}

func TestP101Must(t *testing.T) {
	f := &fail.Failure{Errno: api.ErrDeep, At: 3}
	if got := fail.Must(f); got != f {
		t.Errorf("Must tells another Failure: %v", got)
	}
	if got := fail.Must(nilFailure()); got != nil {
		t.Errorf("Must of a nil *Failure = %v", got)
	}
	for _, err := range append(strangers(), nil) {
		if _, ok := panicOf(err).(*runtime.TypeAssertionError); !ok {
			t.Errorf("Must of a %T: no assertion panics", err)
		}
	}
}

func TestP101Error(t *testing.T) {
	cases := []struct {
		f    *fail.Failure
		want string
	}{
		{&fail.Failure{Errno: api.ErrDeep, At: 3}, "deep at 3"},
		{&fail.Failure{Errno: api.ErrArg}, "arg at 0"},
		{&fail.Failure{}, "ok at 0"},
		{&fail.Failure{Errno: api.ErrUtf, At: -12}, "utf at -12"},
		{&fail.Failure{Errno: api.ErrTime, At: math.MaxInt}, fmt.Sprintf("time at %d", math.MaxInt)},
		{&fail.Failure{Errno: api.ErrFull, At: math.MinInt}, fmt.Sprintf("full at %d", math.MinInt)},
		{&fail.Failure{Errno: 16, At: 5}, " at 5"},
		{&fail.Failure{Errno: -1, At: 5}, " at 5"},
		{nil, "none"},
	}
	for _, c := range cases {
		if got := c.f.Error(); got != c.want {
			t.Errorf("Error() = %q, not %q", got, c.want)
		}
	}
}

func TestP102Add(t *testing.T) {
	cases := []struct {
		a, b, sum int
		ok        bool
	}{
		{0, 0, 0, true},
		{2, 3, 5, true},
		{0, math.MaxInt, math.MaxInt, true},
		{math.MaxInt, 0, math.MaxInt, true},
		{math.MaxInt - 5, 5, math.MaxInt, true},
		{math.MaxInt / 2, math.MaxInt/2 + 1, math.MaxInt, true},
		{math.MaxInt - 5, 6, 0, false},
		{math.MaxInt, 1, 0, false},
		{1, math.MaxInt, 0, false},
		{math.MaxInt, math.MaxInt, 0, false},
		{-1, 5, 0, false},
		{5, -1, 0, false},
		{-1, 0, 0, false},
		{0, -1, 0, false},
		{-1, -1, 0, false},
		{math.MaxInt, -1, 0, false},
		{math.MinInt, 0, 0, false},
		{math.MinInt, math.MaxInt, 0, false},
		{math.MaxInt, math.MinInt, 0, false},
		{math.MinInt, math.MinInt, 0, false},
	}
	for _, c := range cases {
		if sum, ok := fail.Add(c.a, c.b); sum != c.sum || ok != c.ok {
			t.Errorf("Add(%d, %d) = %d, %t, not %d, %t", c.a, c.b, sum, ok, c.sum, c.ok)
		}
	}
}

func TestP102Name(t *testing.T) {
	for k, want := range names {
		if got := fail.Name(api.Errno(k)); got != want {
			t.Errorf("Name(%d) = %q, not %q", k, got, want)
		}
	}
	for _, e := range []api.Errno{-1, 16, 17, 255, 256, math.MaxInt, math.MinInt} {
		if got := fail.Name(e); got != "" {
			t.Errorf("Name(%d) = %q, not empty", e, got)
		}
	}
}
