package world

import "hearsay/api"

// refusal: why a step isn't done: an error's number, and its place in the step's text.
type refusal struct{ api.Fault }

func (r refusal) Error() string { return "a step is refused" }

// refused: the error value of an error that has no place in a text; nil of OK.
func refused(err api.Errno) error { return refusedAt(api.Fault{Err: err}) }

// refusedAt: the error value of a fault; nil where there is none.
func refusedAt(f api.Fault) error {
	if f.Err == api.OK {
		return nil
	}
	return refusal{f}
}
