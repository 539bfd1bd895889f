package context_test

import (
	"crypto/hmac"
	"crypto/sha256"
	"fmt"
	"slices"
	"strings"
	"testing"

	"hearsay/api"
	"hearsay/cert"
	"hearsay/context"
	"hearsay/keys"
	"hearsay/syntax"
)

const (
	leastInt    = -1 << 63
	greatestInt = 1<<63 - 1
)

var (
	none  = api.Term{}
	ok    = api.Fault{}
	never = api.Digest{1, 2, 3} // the id of no certificate that a test has
)

func num(n int) api.Term    { return api.Term{Kind: api.KindNum, N: n} }
func txt(s string) api.Term { return api.Term{Kind: api.KindText, S: s} }
func v(n int) api.Term      { return api.Term{Kind: api.KindVar, N: n} }

func long(n int) string { return strings.Repeat("a", n) }

func texts(l ...string) []string { return l }

func fault(err api.Errno, at int) api.Fault { return api.Fault{Err: err, At: at} }

func count(on bool) int {
	if on {
		return 1
	}
	return 0
}

// ringOf: a ring on which the principals are enrolled.
func ringOf(t *testing.T, secret string, names ...string) *keys.Ring {
	t.Helper()
	r := keys.New([]byte(secret))
	for _, name := range names {
		if err := r.Enroll(name); err != api.OK {
			t.Fatalf("Enroll(%q): %d", name, err)
		}
	}
	return r
}

func newContext(t *testing.T, r *keys.Ring, name string) *context.Context {
	t.Helper()
	x, err := context.New(r, name)
	if err != api.OK || x == nil {
		t.Fatalf("P20.1: New(%q): %d", name, err)
	}
	return x
}

// contextOf: ann's context on a ring of its own, with these own clauses.
func contextOf(t *testing.T, program string) *context.Context {
	t.Helper()
	x := newContext(t, ringOf(t, "s", "ann", "bob"), "ann")
	asserted(t, x, program)
	return x
}

// asserted: it must be answered OK.
func asserted(t *testing.T, x *context.Context, text string) {
	t.Helper()
	if _, f := x.Assert(text); f != ok {
		t.Fatalf("P20.2: Assert(%.80q): %v", text, f)
	}
}

func retracted(t *testing.T, x *context.Context, text string) {
	t.Helper()
	if _, f := x.Retract(text); f != ok {
		t.Fatalf("P20.3: Retract(%.80q): %v", text, f)
	}
}

// exported: an own clause, as bytes.
func exported(t *testing.T, x *context.Context, text string) []byte {
	t.Helper()
	b, f := x.Export(text, 0)
	if f != ok || len(b) == 0 {
		t.Fatalf("P20.6: Export(%q): %v", text, f)
	}
	return b
}

func imported(t *testing.T, x *context.Context, certs ...[]byte) {
	t.Helper()
	for _, b := range certs {
		if _, err := x.Import(b); err != api.OK {
			t.Fatalf("P20.4: Import(%x): %d", b, err)
		}
	}
}

// issued: a certificate by which u says the clause of the text.
func issued(t *testing.T, r *keys.Ring, u, text string) []byte {
	t.Helper()
	b, err := cert.Issue(r, u, clauseOf(t, text))
	if err != api.OK {
		t.Fatalf("Issue(%q, %q): %d", u, text, err)
	}
	return b
}

func clauseOf(t *testing.T, text string) api.Clause {
	t.Helper()
	c, f := syntax.Clause(text)
	if f != ok {
		t.Fatalf("%s: fault %v", text, f)
	}
	return c
}

func programOf(t *testing.T, text string) []api.Clause {
	t.Helper()
	cs, f := syntax.Program(text)
	if f != ok {
		t.Fatalf("%s: fault %v", text, f)
	}
	return cs
}

// numbered: the text of name(from). to name(to - 1).
func numbered(name string, from, to int) string {
	var s strings.Builder
	for n := from; n < to; n++ {
		fmt.Fprintf(&s, "%s(%d).\n", name, n)
	}
	return s.String()
}

// told: the clauses' texts.
func told(cs []api.Clause) []string {
	var l []string
	for _, c := range cs {
		l = append(l, syntax.Print(c))
	}
	return l
}

func toldAtoms(l []api.Atom) []string {
	var out []string
	for _, x := range l {
		out = append(out, syntax.PrintAtom(x))
	}
	return out
}

func sameAtom(x, y api.Atom) bool {
	return x.Name == y.Name && x.By == y.By && slices.Equal(x.Args, y.Args)
}

func same(x, y []api.Atom) bool { return slices.EqualFunc(x, y, sameAtom) }

func sameClause(x, y api.Clause) bool {
	return sameAtom(x.Head, y.Head) && same(x.Body, y.Body) && slices.Equal(x.Tests, y.Tests)
}

func sameClauses(x, y []api.Clause) bool { return slices.EqualFunc(x, y, sameClause) }

func sameStep(x, y api.Step) bool {
	return x.Rule == y.Rule && slices.Equal(x.Vals, y.Vals) && slices.Equal(x.Uses, y.Uses)
}

func sameProof(x, y api.Proof) bool {
	return sameClauses(x.Rules, y.Rules) && slices.EqualFunc(x.Steps, y.Steps, sameStep)
}

func sameReply(x, y api.Reply) bool {
	return same(x.Answers, y.Answers) && slices.EqualFunc(x.Proofs, y.Proofs, sameProof) && x.Rounds == y.Rounds
}

func sameChange(x, y api.Change) bool { return same(x.Came, y.Came) && same(x.Gone, y.Gone) }

func hasAtom(l []api.Atom, f api.Atom) bool {
	return slices.ContainsFunc(l, func(x api.Atom) bool { return sameAtom(x, f) })
}

func hasClause(l []api.Clause, c api.Clause) bool {
	return slices.ContainsFunc(l, func(x api.Clause) bool { return sameClause(x, c) })
}

// sum: the digest of bytes, by the library.
func sum(b string) api.Digest { return sha256.Sum256([]byte(b)) }

// mac: the keyed digest, by the library.
func mac(key, b []byte) api.Digest {
	h := hmac.New(sha256.New, key)
	h.Write(b)
	return api.Digest(h.Sum(nil))
}

// sealed: the body with its signer's seal behind it, only worked out.
func sealed(secret, u, body string) string {
	key, d := mac([]byte(secret), []byte(u)), sum(body)
	seal := mac(key[:], d[:])
	return body + string(seal[:])
}

// bodyOf: all of a certificate but its seal.
func bodyOf(b string) string { return b[:len(b)-32] }

func compareDigests(x, y api.Digest) int { return slices.Compare(x[:], y[:]) }

// signed: all that can be seen of a ring: who has a key, and what each signed.
func signed(r *keys.Ring) string {
	var s strings.Builder
	for _, name := range r.Names() {
		fmt.Fprintf(&s, "%q: %x\n", name, r.Signed(name))
	}
	return s.String()
}

// lookQueries: what seen asks; each is a query of some test's clauses.
func lookQueries() []string {
	return texts("p(X)?", "W says p(X)?", "q(X)?", "W says q(X)?", "ok(X)?", "t?")
}

// seen: all that can be seen of a context without a change, as a text: its name, the lists, and answers of both kinds.
func seen(x *context.Context) string {
	var s strings.Builder
	fmt.Fprintf(&s, "%s\nown %+v\ncerts %x\nclauses %+v\n", x.Name(), x.Own(), x.Certs(), x.Clauses())
	for _, text := range lookQueries() {
		for _, fuel := range []int{1, 3, 6000} {
			reply, f := x.Query(text, fuel)
			fmt.Fprintf(&s, "%s %d: %+v %v\n", text, fuel, reply, f)
		}
		answers, f := x.Ask(text)
		fmt.Fprintf(&s, "ask %s: %+v %v\n", text, answers, f)
	}
	return s.String()
}

// wantStill: what f does isn't seen in the context, nor on the ring.
func wantStill(t *testing.T, what string, r *keys.Ring, x *context.Context, f func()) {
	t.Helper()
	ring, before := signed(r), seen(x)
	f()
	if after := seen(x); after != before {
		t.Errorf("P20.13: %s has changed the context from\n%s\nto\n%s", what, before, after)
	}
	if signed(r) != ring {
		t.Errorf("P20.13: %s has changed what is signed", what)
	}
}

func wantCount(t *testing.T, what string, n int, f api.Fault, want int, wantFault api.Fault) {
	t.Helper()
	if n != want || f != wantFault {
		t.Errorf("%s is %d, %v, want %d, %v", what, n, f, want, wantFault)
	}
}

func wantAssert(t *testing.T, x *context.Context, text string, want int, f api.Fault) {
	t.Helper()
	n, got := x.Assert(text)
	wantCount(t, fmt.Sprintf("P20.2: Assert(%.100q)", text), n, got, want, f)
}

func wantRetract(t *testing.T, x *context.Context, text string, want int, f api.Fault) {
	t.Helper()
	n, got := x.Retract(text)
	wantCount(t, fmt.Sprintf("P20.3: Retract(%.100q)", text), n, got, want, f)
}

func wantImport(t *testing.T, x *context.Context, b []byte, want bool, wantErr api.Errno) {
	t.Helper()
	if came, err := x.Import(b); came != want || err != wantErr {
		t.Errorf("P20.4: Import(%x) is %t, %d, want %t, %d", b, came, err, want, wantErr)
	}
}

func wantForget(t *testing.T, x *context.Context, id api.Digest, want api.Errno) {
	t.Helper()
	if err := x.Forget(id); err != want {
		t.Errorf("P20.5: Forget(%x) is %d, want %d", id, err, want)
	}
}

// wantNoExport: with this fault, and nothing is signed.
func wantNoExport(t *testing.T, r *keys.Ring, x *context.Context, text string, fuel int, want api.Fault) {
	t.Helper()
	before := signed(r)
	if b, f := x.Export(text, fuel); len(b) != 0 || f != want {
		t.Errorf("P20.6: Export(%.100q, %d) is %x, %v, want %v", text, fuel, b, f, want)
	}
	if signed(r) != before {
		t.Errorf("P20.6: Export(%.100q, %d), which is refused, signs", text, fuel)
	}
}

// wantExport: the bytes by which the context's principal says the clause, worked out by the library; and just its pair is signed.
func wantExport(t *testing.T, r *keys.Ring, secret string, x *context.Context, text string, fuel int) []byte {
	t.Helper()
	body, err := cert.Body(x.Name(), clauseOf(t, text))
	if err != api.OK {
		t.Fatalf("Body(%q): %d", text, err)
	}
	want := sealed(secret, x.Name(), string(body))
	digests := r.Signed(x.Name())
	if d := sum(string(body)); !slices.Contains(digests, d) {
		digests = append(digests, d)
		slices.SortFunc(digests, compareDigests)
	}
	b, f := x.Export(text, fuel)
	if string(b) != want || f != ok {
		t.Errorf("P20.6: Export(%q, %d) is %x, %v, want %x", text, fuel, b, f, want)
	}
	if got := r.Signed(x.Name()); !slices.Equal(got, digests) {
		t.Errorf("P20.6: behind Export(%q, %d) %x are signed, want %x", text, fuel, got, digests)
	}
	return b
}

// wantQuery: these answers, and as many rounds.
func wantQuery(t *testing.T, x *context.Context, text string, fuel, rounds int, want ...string) {
	t.Helper()
	reply, f := x.Query(text, fuel)
	if f != ok || reply.Rounds != rounds || !slices.Equal(toldAtoms(reply.Answers), want) || len(reply.Proofs) != len(want) {
		t.Errorf("P20.7: Query(%q, %d) is %q, %d derivations, %d rounds, %v, want %q, %d rounds", text, fuel, toldAtoms(reply.Answers), len(reply.Proofs), reply.Rounds, f, want, rounds)
	}
}

func wantNoQuery(t *testing.T, x *context.Context, text string, fuel int, want api.Fault) {
	t.Helper()
	if reply, f := x.Query(text, fuel); f != want || !sameReply(reply, api.Reply{}) {
		t.Errorf("P20.7: Query(%.100q, %d) is %+v, %v, want %v", text, fuel, reply, f, want)
	}
}

func wantAsk(t *testing.T, x *context.Context, text string, want ...string) {
	t.Helper()
	if answers, f := x.Ask(text); f != ok || !slices.Equal(toldAtoms(answers), want) {
		t.Errorf("P20.8: Ask(%q) is %q, %v, want %q", text, toldAtoms(answers), f, want)
	}
}

func wantNoAsk(t *testing.T, x *context.Context, text string, want api.Fault) {
	t.Helper()
	if answers, f := x.Ask(text); f != want || len(answers) != 0 {
		t.Errorf("P20.8: Ask(%.100q) is %v, %v, want %v", text, answers, f, want)
	}
}

func wantWatch(t *testing.T, x *context.Context, text string, want int, f api.Fault) {
	t.Helper()
	n, got := x.Watch(text)
	wantCount(t, fmt.Sprintf("P20.9: Watch(%.100q)", text), n, got, want, f)
}

// wantNews: came and gone as texts with a blank between each two.
func wantNews(t *testing.T, x *context.Context, w int, came, gone string) {
	t.Helper()
	change, err := x.News(w)
	if err != api.OK || strings.Join(toldAtoms(change.Came), " ") != came || strings.Join(toldAtoms(change.Gone), " ") != gone {
		t.Errorf("P20.10: News(%d): came %q, gone %q, %d, want %q, %q", w, toldAtoms(change.Came), toldAtoms(change.Gone), err, came, gone)
	}
}

func wantNoNews(t *testing.T, x *context.Context, w int, want api.Errno) {
	t.Helper()
	if change, err := x.News(w); err != want || !sameChange(change, api.Change{}) {
		t.Errorf("P20.10: News(%d) is %+v, %d, want %d", w, change, err, want)
	}
}

func wantPlay(t *testing.T, x *context.Context, r api.Record, want api.Errno) {
	t.Helper()
	if err := x.Play(r); err != want {
		t.Errorf("P20.12: Play(%+v) is %d, want %d", r, err, want)
	}
}

func wantOwn(t *testing.T, x *context.Context, want ...string) {
	t.Helper()
	if got := told(x.Own()); !slices.Equal(got, want) {
		t.Errorf("P20.11: the own clauses are %q, want %q", got, want)
	}
}

func wantClauses(t *testing.T, x *context.Context, want ...string) {
	t.Helper()
	if got := told(x.Clauses()); !slices.Equal(got, want) {
		t.Errorf("P20.11: the clauses are %q, want %q", got, want)
	}
}

// wantCerts: these, in the order that the chapter names.
func wantCerts(t *testing.T, x *context.Context, want ...[]byte) {
	t.Helper()
	var sorted, got []string
	for _, b := range want {
		sorted = append(sorted, string(b))
	}
	slices.SortFunc(sorted, func(x, y string) int { return compareDigests(sum(x), sum(y)) })
	for _, b := range x.Certs() {
		got = append(got, string(b))
	}
	if !slices.Equal(got, sorted) {
		t.Errorf("P20.11: the certificates are %x, want %x", got, sorted)
	}
}
