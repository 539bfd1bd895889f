package codec

import (
	"math"
	"slices"

	"hearsay/api"
	"hearsay/clause"
	"hearsay/term"
)

// reader: goes through bytes part by part. Where a part can't be so it gives up by a panic with the error, so that those who call it needn't ask for one at every part.
type reader struct {
	left []byte
}

// read: what all makes of the bytes, or the error with which it gives up.
func read[T any](b []byte, all func(*reader) T) (out T, err api.Errno) {
	defer func() {
		if reason := recover(); reason != nil {
			err = reason.(api.Errno) // a reader panics with nothing else
		}
	}()
	r := &reader{left: b}
	thing := all(r)
	if len(r.left) > 0 {
		giveUp(api.ErrTail)
	}
	return thing, api.OK
}

func giveUp(err api.Errno) { panic(err) }

// listOf: grows as the parts come, since the count may promise more than there is.
func listOf[T any](count int, one func() T) []T {
	var out []T
	for range count {
		out = append(out, one())
	}
	return out
}

// take: the next bytes, so many. They are the argument's own: none of them may be answered.
func (r *reader) take(count int) []byte {
	if len(r.left) < count {
		giveUp(api.ErrShort)
	}
	part := r.left[:count]
	r.left = r.left[count:]
	return part
}

func (r *reader) number(width int) uint64 {
	n := uint64(0)
	for _, b := range r.take(width) {
		n = n<<8 | uint64(b)
	}
	return n
}

// count: of a list without a limit.
func (r *reader) count() int { return int(r.number(wide)) }

// bounded: a length, or the count of a list with a limit.
func (r *reader) bounded(least, most int) int {
	n := int(r.number(narrow))
	if n < least || n > most {
		giveUp(api.ErrCode)
	}
	return n
}

// oneOf: the next byte, which must be one of these.
func (r *reader) oneOf(codes ...int) int {
	code := int(r.number(narrow))
	if !slices.Contains(codes, code) {
		giveUp(api.ErrCode)
	}
	return code
}

// natural: a whole number that isn't below 0.
func (r *reader) natural() int {
	n := r.number(whole)
	if n > math.MaxInt {
		giveUp(api.ErrCode)
	}
	return int(n)
}

func (r *reader) text(least, most int) string {
	return string(r.take(r.bounded(least, most)))
}

func (r *reader) qualifier() api.Term {
	kind := r.oneOf(api.KindNone, api.KindText, api.KindVar)
	return r.termOf(kind, 1)
}

func (r *reader) argument() api.Term {
	kind := r.oneOf(api.KindNum, api.KindText, api.KindVar)
	return r.termOf(kind, 0)
}

func (r *reader) value() api.Term {
	kind := r.oneOf(api.KindNum, api.KindText)
	return r.termOf(kind, 0)
}

// termOf: a term of this kind, whose first byte has been read; a text has this many bytes at least.
func (r *reader) termOf(kind, leastText int) api.Term {
	switch kind {
	case api.KindNum:
		return api.Term{Kind: kind, N: int(r.number(whole))}
	case api.KindText:
		return api.Term{Kind: kind, S: r.text(leastText, api.MaxConst)}
	case api.KindVar:
		return api.Term{Kind: kind, N: r.natural()}
	}
	return api.Term{}
}

// name: of an atom of nothing else only the name can be wrong.
func (r *reader) name() string {
	name := r.text(1, api.MaxName)
	if term.CheckAtom(api.Atom{Name: name}) != api.OK {
		giveUp(api.ErrCode)
	}
	return name
}

func (r *reader) atom() api.Atom {
	by := r.qualifier()
	name := r.name()
	args := listOf(r.bounded(0, api.MaxArity), r.argument)
	return api.Atom{By: by, Name: name, Args: args}
}

func (r *reader) test() api.Test {
	op := r.oneOf(api.OpEq, api.OpNe, api.OpLt, api.OpLe)
	l := r.argument()
	return api.Test{Op: op, L: l, R: r.argument()}
}

func (r *reader) clause() api.Clause {
	head := r.atom()
	body := listOf(r.bounded(0, api.MaxBody), r.atom)
	tests := listOf(r.bounded(0, api.MaxTests), r.test)
	c := api.Clause{Head: head, Body: body, Tests: tests}
	if clause.Check(c) != api.OK {
		giveUp(api.ErrCode)
	}
	return c
}

func (r *reader) set() []api.Clause {
	var out []api.Clause
	for range r.count() {
		c := r.clause()
		if n := len(out); n > 0 && clause.Compare(out[n-1], c) >= 0 {
			giveUp(api.ErrRising)
		}
		out = append(out, c)
	}
	return out
}

func (r *reader) step() api.Step {
	rule := r.natural()
	vals := listOf(r.count(), r.value)
	return api.Step{Rule: rule, Vals: vals, Uses: listOf(r.count(), r.natural)}
}

func (r *reader) proof() api.Proof {
	rules := listOf(r.count(), r.clause)
	return api.Proof{Rules: rules, Steps: listOf(r.count(), r.step)}
}
