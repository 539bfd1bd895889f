package term

import (
	"cmp"

	"hearsay/api"
)

// CheckAtom: ErrName, ErrArity, ErrBy, ErrTerm, in this order; OK: the atom is valid.
func CheckAtom(a api.Atom) api.Errno {
	switch {
	case !validName(a.Name):
		return api.ErrName
	case len(a.Args) > api.MaxArity:
		return api.ErrArity
	case !validQualifier(a.By):
		return api.ErrBy
	}
	for _, t := range a.Args {
		if !constOrVariable(t) {
			return api.ErrTerm
		}
	}
	return api.OK
}

func validName(s string) bool {
	if s == "" || len(s) > api.MaxName || s == "says" || !smallLetter(s[0]) {
		return false
	}
	for i := 1; i < len(s); i++ {
		if !nameByte(s[i]) {
			return false
		}
	}
	return true
}

func smallLetter(c byte) bool { return 'a' <= c && c <= 'z' }

func nameByte(c byte) bool {
	return smallLetter(c) || 'A' <= c && c <= 'Z' || '0' <= c && c <= '9' || c == '_'
}

func validQualifier(t api.Term) bool {
	return t == api.Term{} || Principal(t) || Variable(t)
}

func constOrVariable(t api.Term) bool { return Const(t) || Variable(t) }

// Fact: is a valid, and without variables?
func Fact(a api.Atom) bool {
	if CheckAtom(a) != api.OK {
		return false
	}
	for i := range places(a) {
		if Variable(place(a, i)) {
			return false
		}
	}
	return true
}

// CompareAtoms: by Name (bytes), number of arguments, By, then the arguments from the first on. For all atoms.
func CompareAtoms(a, b api.Atom) int {
	if a.Name != b.Name {
		return cmp.Compare(a.Name, b.Name)
	}
	if len(a.Args) != len(b.Args) {
		return cmp.Compare(len(a.Args), len(b.Args))
	}
	for i := range places(a) {
		if c := Compare(place(a, i), place(b, i)); c != 0 {
			return c
		}
	}
	return 0
}

// Vars: the numbers of the variables of By and the arguments, each once, as they first stand there.
func Vars(a api.Atom) []int {
	var found []int
next:
	for i := range places(a) {
		t := place(a, i)
		if !Variable(t) {
			continue
		}
		for _, v := range found {
			if v == t.N {
				continue next
			}
		}
		found = append(found, t.N)
	}
	return found
}

// places: how many places a has: the qualifier is place 0, the arguments follow.
func places(a api.Atom) int { return 1 + len(a.Args) }

func place(a api.Atom, i int) api.Term {
	if i == 0 {
		return a.By
	}
	return a.Args[i-1]
}

// sameShape: only atoms of one predicate can be made into one another, or the same.
func sameShape(a, b api.Atom) bool {
	return a.Name == b.Name && len(a.Args) == len(b.Args)
}
