package codec

import "hearsay/api"

// The bytes of a count or a number.
const (
	narrow = 1 // a length, or a count that has a limit
	wide   = 4 // a count that has none
	whole  = 8 // an int
)

// putList: the list's count in so many bytes, and what put makes of each.
func putList[T any](b []byte, width int, l []T, put func([]byte, T) []byte) []byte {
	b = putNumber(b, width, uint64(len(l)))
	for _, x := range l {
		b = put(b, x)
	}
	return b
}

// putNumber: the number's lowest bytes, so many, the greatest of them first.
func putNumber(b []byte, width int, n uint64) []byte {
	for i := width - 1; i >= 0; i-- {
		b = append(b, byte(n>>(8*i)))
	}
	return b
}

func putInt(b []byte, n int) []byte { return putNumber(b, whole, uint64(n)) }

func putText(b []byte, s string) []byte {
	b = putNumber(b, narrow, uint64(len(s)))
	return append(b, s...)
}

// putTerm: the kinds' numbers are the first bytes that the table has for them.
func putTerm(b []byte, t api.Term) []byte {
	b = append(b, byte(t.Kind))
	switch t.Kind {
	case api.KindNum, api.KindVar:
		return putInt(b, t.N)
	case api.KindText:
		return putText(b, t.S)
	}
	return b
}

func putAtom(b []byte, a api.Atom) []byte {
	b = putTerm(b, a.By)
	b = putText(b, a.Name)
	return putList(b, narrow, a.Args, putTerm)
}

func putTest(b []byte, t api.Test) []byte {
	b = append(b, byte(t.Op))
	b = putTerm(b, t.L)
	return putTerm(b, t.R)
}

func putClause(b []byte, c api.Clause) []byte {
	b = putAtom(b, c.Head)
	b = putList(b, narrow, c.Body, putAtom)
	return putList(b, narrow, c.Tests, putTest)
}

func putStep(b []byte, s api.Step) []byte {
	b = putInt(b, s.Rule)
	b = putList(b, wide, s.Vals, putTerm)
	return putList(b, wide, s.Uses, putInt)
}
