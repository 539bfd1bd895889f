package clause

import (
	"hearsay/api"
	"hearsay/term"
)

// check: one thing that a clause may be refused for, and its error.
type check struct {
	refuses func(api.Clause) bool
	err     api.Errno
}

// checks: in the order in which they are asked. Each may lean on those ahead of it having let the clause through.
func checks() []check {
	return []check{
		{tooLong, api.ErrBody},
		{wrongAtom(api.ErrName), api.ErrName},
		{wrongAtom(api.ErrArity), api.ErrArity},
		{wrongAtom(api.ErrBy), api.ErrBy},
		{wrongAtom(api.ErrTerm), api.ErrTerm},
		{wrongTest, api.ErrTest},
		{variableSpeaks, api.ErrHead},
		{unboundVariable, api.ErrSafe},
		{misnumbered, api.ErrNumbering},
	}
}

// Check: ErrBody; the head's and then each body atom's error (layer 2); ErrTest; ErrHead; ErrSafe; ErrNumbering; OK: the clause is valid.
func Check(c api.Clause) api.Errno {
	for _, k := range checks() {
		if k.refuses(c) {
			return k.err
		}
	}
	return api.OK
}

func tooLong(c api.Clause) bool {
	return len(c.Body) > api.MaxBody || len(c.Tests) > api.MaxTests
}

// wrongAtom: refuses a clause whose first atom that isn't valid has this error. Only the first one counts, so it doesn't matter in which order the atoms' errors stand in the table.
func wrongAtom(err api.Errno) func(api.Clause) bool {
	return func(c api.Clause) bool { return atomsError(c) == err }
}

func atomsError(c api.Clause) api.Errno {
	for a := range atoms(c) {
		if err := term.CheckAtom(a); err != api.OK {
			return err
		}
	}
	return api.OK
}

func wrongTest(c api.Clause) bool {
	for _, t := range c.Tests {
		if term.CheckTest(t) != api.OK {
			return true
		}
	}
	return false
}

func variableSpeaks(c api.Clause) bool { return term.Variable(c.Head.By) }

func unboundVariable(c api.Clause) bool {
	bound := variableSet(api.Clause{Body: c.Body})
	for v := range variables(api.Clause{Head: c.Head, Tests: c.Tests}) {
		if _, ok := bound[v]; !ok {
			return true
		}
	}
	return false
}

// misnumbered: while all is in order, the numbers below next are those that stood already.
func misnumbered(c api.Clause) bool {
	next := 0
	for v := range variables(c) {
		if v > next {
			return true
		}
		if v == next {
			next++
		}
	}
	return false
}
