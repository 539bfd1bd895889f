package context

import (
	"errors"
	"strconv"

	"hearsay/api"
)

// refusal: a fault as an error value: what a layer below, or the core itself, refuses.
type refusal struct{ api.Fault }

func (r refusal) Error() string {
	return "refused: E" + strconv.Itoa(int(r.Err)) + " at " + strconv.Itoa(r.At)
}

// refused: the error value of an error that has no place in a text; nil of OK.
func refused(err api.Errno) error { return refusedAt(api.Fault{Err: err}) }

// refusedAt: the error value of a fault; nil where there is none.
func refusedAt(f api.Fault) error {
	if f.Err == api.OK {
		return nil
	}
	return refusal{f}
}

// faultOf: the fault for which an error value stands; none, if there is no error.
func faultOf(err error) api.Fault {
	var r refusal
	if errors.As(err, &r) {
		return r.Fault
	}
	return api.Fault{}
}
