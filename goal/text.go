package goal

import (
	"strconv"

	"hearsay/api"
)

// textOfAtom: a text that no other atom with a valid name has.
func textOfAtom(a api.Atom) string { return string(appendAtom(nil, a)) }

// textOfClause: a text that no other clause with valid names has.
func textOfClause(c api.Clause) string {
	b := appendAtom(nil, c.Head)
	b = appendNumber(b, len(c.Body))
	for _, a := range c.Body {
		b = appendAtom(b, a)
	}
	for _, t := range c.Tests {
		b = appendNumber(b, t.Op)
		b = appendTerm(b, t.L)
		b = appendTerm(b, t.R)
	}
	return string(b)
}

// appendAtom: a valid name has no blank, so the one behind it shows its end.
func appendAtom(b []byte, a api.Atom) []byte {
	b = append(append(b, a.Name...), ' ')
	b = appendNumber(b, len(a.Args))
	b = appendTerm(b, a.By)
	for _, t := range a.Args {
		b = appendTerm(b, t)
	}
	return b
}

// appendTerm: any bytes may stand in the term's text, so its length stands ahead of it.
func appendTerm(b []byte, t api.Term) []byte {
	b = appendNumber(b, t.Kind)
	b = appendNumber(b, t.N)
	b = appendNumber(b, len(t.S))
	return append(b, t.S...)
}

func appendNumber(b []byte, n int) []byte {
	return append(strconv.AppendInt(b, int64(n), 10), ' ')
}
