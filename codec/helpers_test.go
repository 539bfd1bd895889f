package codec_test

import (
	"encoding/hex"
	"slices"
	"strings"
	"testing"

	"hearsay/api"
	"hearsay/codec"
)

const (
	leastInt    = -1 << 63
	greatestInt = 1<<63 - 1
)

var none = api.Term{}

func num(n int) api.Term    { return api.Term{Kind: api.KindNum, N: n} }
func txt(s string) api.Term { return api.Term{Kind: api.KindText, S: s} }
func v(n int) api.Term      { return api.Term{Kind: api.KindVar, N: n} }

func long(n int) string { return strings.Repeat("a", n) }

func nTimes[T any](n int, x T) []T { return slices.Repeat([]T{x}, n) }

func atom(name string, args ...api.Term) api.Atom { return api.Atom{Name: name, Args: args} }

func says(by api.Term, name string, args ...api.Term) api.Atom {
	return api.Atom{By: by, Name: name, Args: args}
}

func test(op int, l, r api.Term) api.Test { return api.Test{Op: op, L: l, R: r} }

func rule(head api.Atom, body ...api.Atom) api.Clause { return api.Clause{Head: head, Body: body} }

func with(c api.Clause, tests ...api.Test) api.Clause {
	c.Tests = tests
	return c
}

func list(cs ...api.Clause) []api.Clause { return cs }

func step(n int, vals []api.Term, uses ...int) api.Step {
	return api.Step{Rule: n, Vals: vals, Uses: uses}
}

func proof(rules []api.Clause, steps ...api.Step) api.Proof {
	return api.Proof{Rules: rules, Steps: steps}
}

// unhex: the bytes that a text in hexadecimal tells; blanks and bars stand for nothing.
func unhex(text string) []byte {
	b, err := hex.DecodeString(strings.NewReplacer(" ", "", "|", "").Replace(text))
	if err != nil {
		panic(err)
	}
	return b
}

func sameAtom(a, b api.Atom) bool {
	return a.Name == b.Name && a.By == b.By && slices.Equal(a.Args, b.Args)
}

// same: field by field, nil and empty lists being one.
func same(a, b api.Clause) bool {
	return sameAtom(a.Head, b.Head) && slices.EqualFunc(a.Body, b.Body, sameAtom) && slices.Equal(a.Tests, b.Tests)
}

func sameClauses(a, b []api.Clause) bool { return slices.EqualFunc(a, b, same) }

func sameStep(a, b api.Step) bool {
	return a.Rule == b.Rule && slices.Equal(a.Vals, b.Vals) && slices.Equal(a.Uses, b.Uses)
}

func sameProof(a, b api.Proof) bool {
	return sameClauses(a.Rules, b.Rules) && slices.EqualFunc(a.Steps, b.Steps, sameStep)
}

// face: the two calls of one kind of thing, with the plain versions that they are held against.
type face[T any] struct {
	name      string
	write     func(T) ([]byte, api.Errno)
	read      func([]byte) (T, api.Errno)
	parts     func(T) []part
	plainRead func(*plainReader) T
	same      func(a, b T) bool
}

func atoms() face[api.Atom] {
	return face[api.Atom]{"Atom", codec.Atom, codec.ReadAtom, atomParts, (*plainReader).atom, sameAtom}
}

func clauses() face[api.Clause] {
	return face[api.Clause]{"Clause", codec.Clause, codec.ReadClause, clauseParts, (*plainReader).clause, same}
}

func sets() face[[]api.Clause] {
	return face[[]api.Clause]{"Set", codec.Set, codec.ReadSet, setParts, (*plainReader).set, sameClauses}
}

func proofs() face[api.Proof] {
	return face[api.Proof]{"Proof", codec.Proof, codec.ReadProof, proofParts, (*plainReader).proof, sameProof}
}

func (f face[T]) wantWritten(t *testing.T, promise string, x T, want []byte) {
	t.Helper()
	if b, err := f.write(x); !slices.Equal(b, want) || err != api.OK {
		t.Errorf("%s: %s(%+v) is %x, %d; want %x", promise, f.name, x, b, err, want)
	}
}

func (f face[T]) wantNotWritten(t *testing.T, promise string, x T, want api.Errno) {
	t.Helper()
	if b, err := f.write(x); len(b) != 0 || err != want {
		t.Errorf("%s: %s(%+v) is %x, %d; want %d", promise, f.name, x, b, err, want)
	}
}

func (f face[T]) wantRead(t *testing.T, promise string, b []byte, want T) {
	t.Helper()
	if x, err := f.read(b); !f.same(x, want) || err != api.OK {
		t.Errorf("%s: Read%s(%x) is %+v, %d; want %+v", promise, f.name, b, x, err, want)
	}
}

// wantRefused: with this error, and beside it the zero answer.
func (f face[T]) wantRefused(t *testing.T, promise string, b []byte, want api.Errno) {
	t.Helper()
	var zero T
	if x, err := f.read(b); !f.same(x, zero) || err != want {
		t.Errorf("%s: Read%s(%x) is %+v, %d; want %d", promise, f.name, b, x, err, want)
	}
}
