package run_test

import (
	"fmt"
	"testing"

	"hearsay/api"
)

// P26.2: a refusal is one line, whatever else there is.

// allErrors: every number from 1 to beyond the last one, so those of all layers and some of none.
func allErrors() []api.Errno {
	l := []api.Errno{-1, -181, api.Errno(leastInt), api.Errno(greatestInt), 1 << 32}
	for e := range api.ErrLines + 20 {
		if e != api.OK {
			l = append(l, e)
		}
	}
	return l
}

// full: what a step may answer, with all fields set.
func full(t *testing.T) api.Told {
	return api.Told{
		N: 5, Id: api.Digest{1, 2, 3}, Atoms: []api.Atom{atom("p", num(1)), atom("q")}, Gone: []api.Atom{atom("g", text("x"))},
		Clauses: clauses(t, "c(X) :- d(X). e."), Proofs: []api.Proof{{Rules: clauses(t, "p(1)."), Steps: []api.Step{{}}}}, Nums: ints(8, 9),
	}
}

func TestRefusalsOfAllKinds(t *testing.T) {
	for _, kind := range append(kinds(), noKinds()...) {
		for _, err := range allErrors() {
			for _, at := range ints(0, 7, 65536) {
				told := api.Told{Err: err, At: at}
				wantTell(t, "P26.2", api.Do{Kind: kind}, told, fmt.Sprintf("E%d %d", err, at))
				told = full(t)
				told.Err, told.At = err, at
				wantTell(t, "P26.2", api.Do{Kind: kind, Who: "ann", To: "bob", Text: "p?", Bytes: []byte("x"), N: 3, M: 4, K: 5}, told, fmt.Sprintf("E%d %d", err, at))
			}
		}
	}
}

func TestPlacesOfRefusals(t *testing.T) {
	for _, at := range someNumbers() {
		for _, err := range []api.Errno{api.ErrSyntax, api.ErrHex, 1, -1, api.Errno(leastInt), api.Errno(greatestInt)} {
			wantTell(t, "P26.2", api.Do{Kind: api.DoQuery}, api.Told{Err: err, At: at, N: 3}, fmt.Sprintf("E%d %d", err, at))
		}
	}
	wantTell(t, "P26.2", api.Do{Kind: api.DoAssert}, api.Told{Err: api.ErrSyntax, At: 7}, "E51 7")
	wantTell(t, "P26.2", api.Do{Kind: api.DoAssert}, api.Told{Err: -51, At: -7}, "E-51 -7")
	wantTell(t, "P26.2", api.Do{Kind: api.DoAssert}, api.Told{Err: api.Errno(leastInt), At: greatestInt}, "E-9223372036854775808 9223372036854775807")
}

// TestPlaceOfNoRefusal: with OK the place isn't looked at.
func TestPlaceOfNoRefusal(t *testing.T) {
	for _, at := range someNumbers() {
		wantTell(t, "P26.2", api.Do{Kind: api.DoEnroll}, api.Told{At: at}, "ok")
		wantTell(t, "P26.2", api.Do{Kind: api.DoCopy}, api.Told{At: at, N: 6}, "ok 6")
		wantTell(t, "P26.2", api.Do{}, api.Told{At: at}, "ok")
	}
}

// TestRefusalsOfSteps: the places are those of the step's text, not of the line.
func TestRefusalsOfSteps(t *testing.T) {
	wantRun(t, "P26.2", `enroll ann
assert ann "p(X)."
assert ann "p. q("
   assert   ann   "p. q("  % the line's blanks count for nothing
assert ann "p. \x0a\x0a q("
query ann "p" 1
query ann "p?" 0
export ann "p. q." 1
export ann "bob says p." 1
forget ann "zz"
retract ann "q."
loss ann ""
prove ann "p(X)?" 9
news ann 1
import ann 1
flip 1 0 1
swap 1 2
assert bob "p. q("
enroll ann`,
		"ok", "E34 0", "E51 5", "E51 5", "E51 8", "E51 1", "E103 0", "E54 0", "E37 0", "E11 0", "E202 0", "E36 0", "E81 0", "E204 0", "E231 0", "E231 0", "E231 0", "E241 0", "E181 0")
}
