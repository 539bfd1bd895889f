package upkeep

import (
	"slices"
	"strconv"

	"hearsay/api"
	"hearsay/term"
)

// facts: a set of them, by their texts.
type facts map[string]api.Atom

func (s facts) has(f api.Atom) bool {
	_, there := s[textOf(f)]
	return there
}

// take: those of the list that weren't in the set, each once; from then on they are.
func (s facts) take(l []api.Atom) []api.Atom {
	var came []api.Atom
	for _, f := range l {
		text := textOf(f)
		if _, there := s[text]; !there {
			s[text] = f
			came = append(came, f)
		}
	}
	return came
}

// list: the facts, in no order.
func (s facts) list() []api.Atom {
	var l []api.Atom
	for _, f := range s {
		l = append(l, f)
	}
	return l
}

// matching: those that the atom matches, in no order.
func (s facts) matching(q api.Atom) []api.Atom {
	var l []api.Atom
	for _, f := range s {
		if _, matches := term.Match(q, f, nil); matches {
			l = append(l, f)
		}
	}
	return l
}

// without: the set less another one.
func (s facts) without(others facts) facts {
	left := facts{}
	for text, f := range s {
		if _, there := others[text]; !there {
			left[text] = f
		}
	}
	return left
}

// told: the facts in order, in memory of their own, as they go out of the package.
func told(l []api.Atom) []api.Atom {
	var out []api.Atom
	for _, f := range l {
		f.Args = slices.Clone(f.Args)
		out = append(out, f)
	}
	slices.SortFunc(out, term.CompareAtoms)
	return out
}

// textOf: a text that no other atom has. What is valid nowhere has one too, so that it is never taken for a fact.
func textOf(a api.Atom) string {
	b := appendTerm(appendText(nil, a.Name), a.By)
	for _, t := range a.Args {
		b = appendTerm(b, t)
	}
	return string(b)
}

func appendTerm(b []byte, t api.Term) []byte {
	b = appendNumber(b, t.Kind)
	b = appendNumber(b, t.N)
	return appendText(b, t.S)
}

// appendText: any bytes may stand in it, so its length stands ahead of it.
func appendText(b []byte, s string) []byte { return append(appendNumber(b, len(s)), s...) }

func appendNumber(b []byte, n int) []byte {
	return append(strconv.AppendInt(b, int64(n), 10), ' ')
}
