package script

import (
	"slices"

	"hearsay/api"
)

// taking: takes the next token off a line, if it is of one of these kinds; else none.
type taking func(kinds ...int) (api.Token, bool)

// over: what takes the tokens of a line of this length, and what tells where the next one stands (behind the last one: the length).
func over(l []api.Token, length int) (taking, func() int) {
	next := 0
	take := func(kinds ...int) (api.Token, bool) {
		if next == len(l) || !slices.Contains(kinds, l[next].Kind) {
			return api.Token{}, false
		}
		next++
		return l[next-1], true
	}
	place := func() int {
		if next == len(l) {
			return length
		}
		return l[next].At
	}
	return take, place
}

// said: the step that the tokens of a line of this length say. ErrWord, ErrParts.
func said(l []api.Token, length int) (api.Do, api.Fault) {
	take, place := over(l, length)
	first := place()
	name, _ := take(api.TokWord)
	r, there := rowNamed(name.Text)
	if !there {
		return api.Do{}, api.Fault{Err: api.ErrWord, At: first}
	}
	d := api.Do{Kind: r.kind}
	for _, p := range r.parts() {
		if !p.take(take, &d) {
			return api.Do{}, api.Fault{Err: api.ErrParts, At: place()}
		}
	}
	if place() < length {
		return api.Do{}, api.Fault{Err: api.ErrParts, At: place()}
	}
	return d, api.Fault{}
}
