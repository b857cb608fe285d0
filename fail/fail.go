// Package fail has errors that say where they were, and sums that are checked.
package fail

import (
	"math"
	"strconv"

	"truchman/api"
)

// names has each error's name at the place of its number.
var names = [...]string{
	api.OK:        "ok",
	api.ErrArg:    "arg",
	api.ErrForm:   "form",
	api.ErrMore:   "more",
	api.ErrDeep:   "deep",
	api.ErrLarge:  "large",
	api.ErrFloat:  "float",
	api.ErrRange:  "range",
	api.ErrKind:   "kind",
	api.ErrUtf:    "utf",
	api.ErrStage:  "stage",
	api.ErrBudget: "budget",
	api.ErrTime:   "time",
	api.ErrCancel: "cancel",
	api.ErrState:  "state",
	api.ErrFull:   "full",
}

// Failure is an error with its place.
type Failure struct {
	Errno api.Errno
	At    int
}

// Error tells it in words.
func (f *Failure) Error() string {
	if f == nil {
		return "none"
	}
	return Name(f.Errno) + " at " + strconv.Itoa(f.At)
}

// New makes an error; of OK none.
func New(e api.Errno, at int) error {
	if e == api.OK {
		return nil
	}
	return &Failure{Errno: e, At: at}
}

// Errno tells which error it is: ErrState of one that no Failure tells.
func Errno(err error) api.Errno {
	if err == nil {
		return api.OK
	}
	if f, ok := failureIn(err); ok {
		return f.Errno
	}
	return api.ErrState
}

// At tells where it was.
func At(err error) (int, bool) {
	if f, ok := failureIn(err); ok {
		return f.At, true
	}
	return 0, false
}

// Must tells an error that must be a Failure: it panics, if it is none.
func Must(err error) *Failure {
	return sureFailure(err)
}

// Add adds what is not below 0, if the sum is an int.
func Add(a, b int) (int, bool) {
	if a < 0 || b < 0 || a > math.MaxInt-b {
		return 0, false
	}
	return a + b, true
}

// Name tells an error's name; of a number that is no error's "".
func Name(e api.Errno) string {
	if e < 0 || int(e) >= len(names) {
		return ""
	}
	return names[e]
}

// The two assertions stand apart from the calls above: a call that the
// document lists makes none itself on what is handed in to it.

// failureIn tells the Failure that err is; a nil one is passed by, for it says
// neither which error it is nor where it was.
func failureIn(err error) (*Failure, bool) {
	f, ok := err.(*Failure)
	return f, ok && f != nil
}

// sureFailure has no second value: the panic is what is wanted.
func sureFailure(err error) *Failure {
	return err.(*Failure)
}
