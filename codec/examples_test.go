package codec_test

import (
	"slices"
	"testing"

	"hearsay/api"
)

// The chapter's examples, one by one.

const (
	zero8  = " 00 00 00 00 00 00 00 00 "
	minus8 = " 80 00 00 00 00 00 00 00 "
)

func TestExample1Atoms(t *testing.T) {
	for text, a := range map[string]api.Atom{
		"00 02 6f 6b 00": atom("ok"),
		"02 05 61 6c 69 63 65 01 70 02 01 00 00 00 00 00 00 00 07 03" + zero8: says(txt("alice"), "p", num(7), v(0)),
	} {
		atoms().wantWritten(t, "P6.1", a, unhex(text))
		atoms().wantRead(t, "P6.3", unhex(text), a)
	}
}

func TestExample2Clauses(t *testing.T) {
	for text, c := range map[string]api.Clause{
		"00 02 6f 6b 00 00 00": rule(atom("ok")),
		"00 01 70 01 03" + zero8 + "| 01 | 00 01 71 01 03" + zero8 + "| 01 | 02 03" + zero8 + "02 00": with(rule(atom("p", v(0)), atom("q", v(0))), test(api.OpNe, v(0), txt(""))),
	} {
		clauses().wantWritten(t, "P6.1", c, unhex(text))
		clauses().wantRead(t, "P6.3", unhex(text), c)
	}
}

func TestExample3Sets(t *testing.T) {
	p, q := rule(atom("p")), rule(atom("q"))
	const two, pBytes, qBytes = "00 00 00 02", "00 01 70 00 00 00", "00 01 71 00 00 00"
	sets().wantWritten(t, "P6.1", nil, unhex("00 00 00 00"))
	sets().wantRead(t, "P6.3", unhex("00 00 00 00"), nil)
	sets().wantWritten(t, "P6.1", list(q, p), unhex(two+pBytes+qBytes))
	sets().wantRead(t, "P6.3", unhex(two+pBytes+qBytes), list(p, q))
	sets().wantRefused(t, "P6.2", unhex(two+qBytes+pBytes), api.ErrRising)
	sets().wantRefused(t, "P6.2", unhex(two+pBytes+pBytes), api.ErrRising)
}

func TestExample4Derivation(t *testing.T) {
	d := proof(list(rule(atom("ok"))), step(0, nil))
	b := unhex("00 00 00 01 | 00 02 6f 6b 00 00 00 | 00 00 00 01 |" + zero8 + "| 00 00 00 00 | 00 00 00 00")
	proofs().wantWritten(t, "P6.1", d, b)
	proofs().wantRead(t, "P6.3", b, d)
}

func TestExample5AtomsRefused(t *testing.T) {
	for text, err := range map[string]api.Errno{
		"":                                 api.ErrShort,
		"04":                               api.ErrCode,
		"01":                               api.ErrCode,
		"02 00":                            api.ErrCode,
		"00 00":                            api.ErrCode,
		"00 21":                            api.ErrCode,
		"00 02 6f":                         api.ErrShort,
		"00 01 58 00":                      api.ErrCode,
		"00 04 73 61 79 73 00":             api.ErrCode,
		"00 01 70 09":                      api.ErrCode,
		"00 01 70 01 00":                   api.ErrCode,
		"00 01 70 01 03 80":                api.ErrShort,
		"00 01 70 01 03" + minus8:          api.ErrCode,
		"00 01 70 00 00":                   api.ErrTail,
		"00 01 70 01 03 80 00 00 00 00 00": api.ErrShort,
	} {
		atoms().wantRefused(t, "P6.2", unhex(text), err)
	}
}

func TestExample6ClausesRefused(t *testing.T) {
	unsafe := "00 01 70 01 03" + zero8 + "00 00"
	for text, err := range map[string]api.Errno{
		unsafe: api.ErrCode, unsafe + "00": api.ErrCode, unsafe + "ff ff": api.ErrCode,
		"00 01 70 00 09": api.ErrCode, "00 01 70 00": api.ErrShort,
	} {
		clauses().wantRefused(t, "P6.2", unhex(text), err)
	}
}

func TestExample7Counts(t *testing.T) {
	sets().wantRefused(t, "P6.2", unhex("ff ff ff ff"), api.ErrShort)
	proofs().wantRead(t, "P6.3", unhex(zero8), api.Proof{})
	proofs().wantRefused(t, "P6.2", unhex("00 00 00 00 00 00 00 01"+minus8), api.ErrCode)
}

func TestExample8DerivationsRefused(t *testing.T) {
	unsafe := rule(atom("p", v(0)))
	for _, s := range []api.Step{step(-1, nil), step(0, []api.Term{v(0)})} {
		proofs().wantNotWritten(t, "P6.1", proof(nil, s), api.ErrCode)
		proofs().wantNotWritten(t, "P6.1", proof(list(unsafe), s), api.ErrSafe)
	}
}

// TestNilAndEmptyAreOne: R1, as arguments.
func TestNilAndEmptyAreOne(t *testing.T) {
	a := api.Atom{Name: "p", Args: []api.Term{}}
	c := api.Clause{Head: a, Body: []api.Atom{}, Tests: []api.Test{}}
	atoms().wantWritten(t, "R1", a, unhex("00 01 70 00"))
	clauses().wantWritten(t, "R1", c, unhex("00 01 70 00 00 00"))
	sets().wantWritten(t, "R1", []api.Clause{}, unhex("00 00 00 00"))
	proofs().wantWritten(t, "R1", api.Proof{Rules: []api.Clause{}, Steps: []api.Step{}}, unhex(zero8))
	s := api.Step{Vals: []api.Term{}, Uses: []int{}}
	proofs().wantWritten(t, "R1", proof(nil, s), joined(proofParts(proof(nil, step(0, nil)))))
	for _, b := range [][]byte{nil, {}} {
		atoms().wantRefused(t, "R1", b, api.ErrShort)
		clauses().wantRefused(t, "R1", b, api.ErrShort)
		sets().wantRefused(t, "R1", b, api.ErrShort)
		proofs().wantRefused(t, "R1", slices.Clone(b), api.ErrShort)
	}
}
