package bundle_test

import (
	"encoding/hex"
	"fmt"
	"slices"
	"strings"
	"testing"

	"hearsay/api"
	"hearsay/bundle"
	"hearsay/cert"
	"hearsay/keys"
	"hearsay/syntax"
)

const (
	leastInt    = -1 << 63
	greatestInt = 1<<63 - 1
)

var none = api.Term{}

func num(n int) api.Term    { return api.Term{Kind: api.KindNum, N: n} }
func txt(s string) api.Term { return api.Term{Kind: api.KindText, S: s} }
func v(n int) api.Term      { return api.Term{Kind: api.KindVar, N: n} }

func long(n int) string { return strings.Repeat("a", n) }

func texts(l ...string) []string { return l }

func nTimes[T any](n int, x T) []T { return slices.Repeat([]T{x}, n) }

func atom(name string, args ...api.Term) api.Atom { return api.Atom{Name: name, Args: args} }

func says(by api.Term, name string, args ...api.Term) api.Atom {
	return api.Atom{By: by, Name: name, Args: args}
}

func test(op int, l, r api.Term) api.Test { return api.Test{Op: op, L: l, R: r} }

func rule(head api.Atom, body ...api.Atom) api.Clause { return api.Clause{Head: head, Body: body} }

func with(c api.Clause, tests ...api.Test) api.Clause {
	c.Tests = tests
	return c
}

func rules(cs ...api.Clause) []api.Clause { return cs }

func step(n int, vals []api.Term, uses ...int) api.Step {
	return api.Step{Rule: n, Vals: vals, Uses: uses}
}

func derivation(rules []api.Clause, steps ...api.Step) api.Proof {
	return api.Proof{Rules: rules, Steps: steps}
}

// unhex: the bytes that a text in hexadecimal tells; blanks and bars stand for nothing.
func unhex(text string) string {
	b, err := hex.DecodeString(strings.NewReplacer(" ", "", "|", "").Replace(text))
	if err != nil {
		panic(err)
	}
	return string(b)
}

// lists: each text as a list of bytes.
func lists(l []string) [][]byte {
	var out [][]byte
	for _, s := range l {
		out = append(out, []byte(s))
	}
	return out
}

// unlisted: the other way about.
func unlisted(l [][]byte) []string {
	var out []string
	for _, b := range l {
		out = append(out, string(b))
	}
	return out
}

func turned(b string, place int, bits byte) string {
	l := []byte(b)
	l[place] ^= bits
	return string(l)
}

func without[T any](l []T, place int) []T { return slices.Delete(slices.Clone(l), place, place+1) }

func sameAtom(x, y api.Atom) bool {
	return x.Name == y.Name && x.By == y.By && slices.Equal(x.Args, y.Args)
}

// sameClause: field by field, nil and empty lists being one.
func sameClause(x, y api.Clause) bool {
	return sameAtom(x.Head, y.Head) && slices.EqualFunc(x.Body, y.Body, sameAtom) && slices.Equal(x.Tests, y.Tests)
}

func sameClauses(x, y []api.Clause) bool { return slices.EqualFunc(x, y, sameClause) }

func sameStep(x, y api.Step) bool {
	return x.Rule == y.Rule && slices.Equal(x.Vals, y.Vals) && slices.Equal(x.Uses, y.Uses)
}

func sameProof(x, y api.Proof) bool {
	return sameClauses(x.Rules, y.Rules) && slices.EqualFunc(x.Steps, y.Steps, sameStep)
}

func hasClause(l []api.Clause, c api.Clause) bool {
	return slices.ContainsFunc(l, func(x api.Clause) bool { return sameClause(x, c) })
}

func hasAtom(l []api.Atom, a api.Atom) bool {
	return slices.ContainsFunc(l, func(x api.Atom) bool { return sameAtom(x, a) })
}

// held: what a bundle holds.
type held struct {
	goal  api.Atom
	certs []string
	p     api.Proof
}

func sameHeld(x, y held) bool {
	return sameAtom(x.goal, y.goal) && slices.Equal(x.certs, y.certs) && sameProof(x.p, y.p)
}

// ringOf: a ring on which the principals are enrolled.
func ringOf(t *testing.T, secret string, names ...string) *keys.Ring {
	t.Helper()
	r := keys.New([]byte(secret))
	for _, name := range names {
		if err := r.Enroll(name); err != api.OK {
			t.Fatalf("Enroll(%q): %d", name, err)
		}
	}
	return r
}

// issued: a certificate by which u says the clause.
func issued(t *testing.T, r *keys.Ring, u string, c api.Clause) string {
	t.Helper()
	b, err := cert.Issue(r, u, c)
	if err != api.OK {
		t.Fatalf("Issue(%q, %+v): %d", u, c, err)
	}
	return string(b)
}

// said: a certificate by which u says the clause of the text.
func said(t *testing.T, r *keys.Ring, u, text string) string {
	t.Helper()
	return issued(t, r, u, clauseOf(t, text))
}

func clauseOf(t *testing.T, text string) api.Clause {
	t.Helper()
	c, f := syntax.Clause(text)
	if f != (api.Fault{}) {
		t.Fatalf("%s: fault %v", text, f)
	}
	return c
}

func programOf(t *testing.T, text string) []api.Clause {
	t.Helper()
	cs, f := syntax.Program(text)
	if f != (api.Fault{}) {
		t.Fatalf("%s: fault %v", text, f)
	}
	return cs
}

// goalOf: the atom of a text; the first variable in it has the number 0, and so on.
func goalOf(t *testing.T, text string) api.Atom {
	t.Helper()
	a, f := syntax.Query(text + "?")
	if f != (api.Fault{}) {
		t.Fatalf("%s: fault %v", text, f)
	}
	return a
}

// told: the clauses' texts.
func told(cs []api.Clause) string {
	var l []string
	for _, c := range cs {
		l = append(l, syntax.Print(c))
	}
	return strings.Join(l, " ")
}

// signed: all that can be seen of a ring: who has a key, and what each signed.
func signed(r *keys.Ring) string {
	var s strings.Builder
	for _, name := range r.Names() {
		fmt.Fprintf(&s, "%q: %x\n", name, r.Signed(name))
	}
	return s.String()
}

// written: it must be answered OK.
func written(t *testing.T, goal api.Atom, certs []string, p api.Proof) string {
	t.Helper()
	b, err := bundle.Write(goal, lists(certs), p)
	if err != api.OK {
		t.Fatalf("P21.1: Write(%+v, %d certificates): %d", goal, len(certs), err)
	}
	return string(b)
}

func wantWritten(t *testing.T, goal api.Atom, certs []string, p api.Proof, want string) {
	t.Helper()
	if b, err := bundle.Write(goal, lists(certs), p); string(b) != want || err != api.OK {
		t.Errorf("P21.1: Write(%+v, %.200x, %+v) is %.400x, %d, want %.400x", goal, certs, p, b, err, want)
	}
}

func wantNotWritten(t *testing.T, goal api.Atom, certs [][]byte, p api.Proof, want api.Errno) {
	t.Helper()
	if b, err := bundle.Write(goal, certs, p); len(b) != 0 || err != want {
		t.Errorf("P21.1: Write(%+v, %d certificates, %d rules, %d steps) is %.400x, %d, want %d", goal, len(certs), len(p.Rules), len(p.Steps), b, err, want)
	}
}

// readAll: Read's answer in one.
func readAll(b string) (held, api.Errno) {
	goal, certs, p, err := bundle.Read([]byte(b))
	return held{goal, unlisted(certs), p}, err
}

func wantRead(t *testing.T, b string, want held) {
	t.Helper()
	if got, err := readAll(b); !sameHeld(got, want) || err != api.OK {
		t.Errorf("P21.2: Read(%.400x) is %+v, %d, want %+v", b, got, err, want)
	}
}

// wantNotRead: with this error, and beside it zero answers; and it isn't shown, with the same error.
func wantNotRead(t *testing.T, b string, want api.Errno) {
	t.Helper()
	if got, err := readAll(b); !sameHeld(got, held{}) || err != want {
		t.Errorf("P21.2: Read(%.400x) is %+v, %d, want %d", b, got, err, want)
	}
	wantNotShown(t, keys.New(nil), nil, b, want)
}

// made: it must be answered OK.
func made(t *testing.T, r *keys.Ring, policy []api.Clause, certs []string, goal api.Atom, fuel int) string {
	t.Helper()
	before := signed(r)
	b, err := bundle.Make(r, policy, lists(certs), goal, fuel)
	if err != api.OK {
		t.Fatalf("P21.4: Make(%s, %d certificates, %s, %d): %d", told(policy), len(certs), syntax.PrintAtom(goal), fuel, err)
	}
	if signed(r) != before {
		t.Errorf("P21.9: Make(%s) has changed the ring", told(policy))
	}
	return string(b)
}

// wantMade: these bytes; and nothing changes on the ring.
func wantMade(t *testing.T, r *keys.Ring, policy []api.Clause, certs []string, goal api.Atom, fuel int, want string) {
	t.Helper()
	if b := made(t, r, policy, certs, goal, fuel); b != want {
		t.Errorf("P21.4: Make(%s, %x, %s, %d) is %.400x, want %.400x", told(policy), certs, syntax.PrintAtom(goal), fuel, b, want)
	}
}

// wantNotMade: with this error; and nothing changes on the ring.
func wantNotMade(t *testing.T, r *keys.Ring, policy []api.Clause, certs []string, goal api.Atom, fuel int, want api.Errno) {
	t.Helper()
	before := signed(r)
	if b, err := bundle.Make(r, policy, lists(certs), goal, fuel); len(b) != 0 || err != want {
		t.Errorf("P21.4: Make(%.400s, %.400x, %+v, %d) is %.400x, %d, want %d", told(policy), certs, goal, fuel, b, err, want)
	}
	if signed(r) != before {
		t.Errorf("P21.9: Make(%.400s) has changed the ring", told(policy))
	}
}

// wantShown: the goal; and nothing changes on the ring.
func wantShown(t *testing.T, r *keys.Ring, policy []api.Clause, b string, want api.Atom) {
	t.Helper()
	before := signed(r)
	if f, err := bundle.Show(r, policy, []byte(b)); !sameAtom(f, want) || err != api.OK {
		t.Errorf("P21.5: Show(%.400s, %.400x) is %+v, %d, want %+v", told(policy), b, f, err, want)
	}
	if signed(r) != before {
		t.Errorf("P21.9: Show(%.400s) has changed the ring", told(policy))
	}
}

// wantNotShown: with this error, and beside it the zero atom; and nothing changes on the ring.
func wantNotShown(t *testing.T, r *keys.Ring, policy []api.Clause, b string, want api.Errno) {
	t.Helper()
	before := signed(r)
	if f, err := bundle.Show(r, policy, []byte(b)); !sameAtom(f, api.Atom{}) || err != want {
		t.Errorf("P21.5: Show(%.400s, %.400x) is %+v, %d, want %d", told(policy), b, f, err, want)
	}
	if signed(r) != before {
		t.Errorf("P21.9: Show(%.400s) has changed the ring", told(policy))
	}
}
