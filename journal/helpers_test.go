package journal_test

import (
	"crypto/sha256"
	"encoding/hex"
	"fmt"
	"slices"
	"strings"
	"testing"

	"hearsay/api"
	"hearsay/cert"
	"hearsay/context"
	"hearsay/journal"
	"hearsay/keys"
	"hearsay/syntax"
)

const (
	leastInt    = -1 << 63
	greatestInt = 1<<63 - 1
)

var none = api.Term{}

func num(n int) api.Term    { return api.Term{Kind: api.KindNum, N: n} }
func txt(s string) api.Term { return api.Term{Kind: api.KindText, S: s} }
func v(n int) api.Term      { return api.Term{Kind: api.KindVar, N: n} }

func long(n int) string { return strings.Repeat("a", n) }

func texts(l ...string) []string { return l }

func nTimes[T any](n int, x T) []T { return slices.Repeat([]T{x}, n) }

func atom(name string, args ...api.Term) api.Atom { return api.Atom{Name: name, Args: args} }

func says(by api.Term, name string, args ...api.Term) api.Atom {
	return api.Atom{By: by, Name: name, Args: args}
}

func test(op int, l, r api.Term) api.Test { return api.Test{Op: op, L: l, R: r} }

func rule(head api.Atom, body ...api.Atom) api.Clause { return api.Clause{Head: head, Body: body} }

func fact(name string) api.Clause { return rule(atom(name)) }

func with(c api.Clause, tests ...api.Test) api.Clause {
	c.Tests = tests
	return c
}

func saidBy(by api.Term, c api.Clause) api.Clause {
	c.Head.By = by
	return c
}

func assertion(c api.Clause) api.Record  { return api.Record{Kind: api.RecAssert, Clause: c} }
func retraction(c api.Clause) api.Record { return api.Record{Kind: api.RecRetract, Clause: c} }
func taking(b string) api.Record         { return api.Record{Kind: api.RecTake, Bytes: []byte(b)} }
func forgetting(id api.Digest) api.Record {
	return api.Record{Kind: api.RecForget, Id: id}
}

func records(l ...api.Record) []api.Record { return l }

// unhex: the bytes that a text in hexadecimal tells; blanks and bars stand for nothing.
func unhex(text string) string {
	b, err := hex.DecodeString(strings.NewReplacer(" ", "", "|", "").Replace(text))
	if err != nil {
		panic(err)
	}
	return string(b)
}

// sum: the digest of bytes, by the library, as bytes.
func sum(b string) string {
	d := sha256.Sum256([]byte(b))
	return string(d[:])
}

func digestOf(b string) api.Digest { return sha256.Sum256([]byte(b)) }

func turned(b string, place int, bits byte) string {
	l := []byte(b)
	l[place] ^= bits
	return string(l)
}

func sameAtom(a, b api.Atom) bool {
	return a.Name == b.Name && a.By == b.By && slices.Equal(a.Args, b.Args)
}

// sameClause: field by field, nil and empty lists being one.
func sameClause(a, b api.Clause) bool {
	return sameAtom(a.Head, b.Head) && slices.EqualFunc(a.Body, b.Body, sameAtom) && slices.Equal(a.Tests, b.Tests)
}

func sameRecord(a, b api.Record) bool {
	return a.Kind == b.Kind && sameClause(a.Clause, b.Clause) && slices.Equal(a.Bytes, b.Bytes) && a.Id == b.Id
}

func sameRecords(a, b []api.Record) bool { return slices.EqualFunc(a, b, sameRecord) }

// ringOf: a ring on which the principals are enrolled.
func ringOf(t *testing.T, secret string, names ...string) *keys.Ring {
	t.Helper()
	r := keys.New([]byte(secret))
	for _, name := range names {
		if err := r.Enroll(name); err != api.OK {
			t.Fatalf("Enroll(%q): %d", name, err)
		}
	}
	return r
}

func clauseOf(t *testing.T, text string) api.Clause {
	t.Helper()
	c, f := syntax.Clause(text)
	if f.Err != api.OK {
		t.Fatalf("%s: fault %v", text, f)
	}
	return c
}

// issued: a certificate by which u says the clause of the text.
func issued(t *testing.T, r *keys.Ring, u, text string) string {
	t.Helper()
	return issuedClause(t, r, u, clauseOf(t, text))
}

func issuedClause(t *testing.T, r *keys.Ring, u string, c api.Clause) string {
	t.Helper()
	b, err := cert.Issue(r, u, c)
	if err != api.OK {
		t.Fatalf("Issue(%q, %+v): %d", u, c, err)
	}
	return string(b)
}

// newLog: a journal on which these records were noted.
func newLog(t *testing.T, name string, l ...api.Record) *journal.Log {
	t.Helper()
	j, err := journal.New(name)
	if j == nil || err != api.OK {
		t.Fatalf("P22.1: New(%q): %d", name, err)
	}
	noted(t, j, l...)
	return j
}

// noted: each must be answered OK.
func noted(t *testing.T, j *journal.Log, l ...api.Record) {
	t.Helper()
	for _, r := range l {
		if err := j.Note(r); err != api.OK {
			t.Fatalf("P22.2: Note(%+v): %d", r, err)
		}
	}
}

// opened: the journal of the bytes, and how many of them it has.
func opened(t *testing.T, b string) (*journal.Log, int) {
	t.Helper()
	j, n, err := journal.Open([]byte(b))
	if j == nil || err != api.OK {
		t.Fatalf("P22.4: Open(%.400x): %d", b, err)
	}
	return j, n
}

// seenOf: all that can be seen of a journal, as a text.
func seenOf(j *journal.Log) string {
	return fmt.Sprintf("%q %x %x %+v", j.Name(), j.Head(), j.Bytes(), j.Records())
}

// wantLog: name, bytes, head and records are those of a journal that the chapter's table lays of these.
func wantLog(t *testing.T, j *journal.Log, name string, l []api.Record) {
	t.Helper()
	want := plainJournal(name, l)
	if got := string(j.Bytes()); got != want {
		t.Errorf("P22.3: the bytes are %.800x, want %.800x", got, want)
	}
	if got := j.Head(); string(got[:]) != want[len(want)-32:] {
		t.Errorf("P22.3: the head is %x, want %x", got, want[len(want)-32:])
	}
	if got := j.Name(); got != name {
		t.Errorf("P22.3: the name is %q, want %q", got, name)
	}
	if got := j.Records(); !sameRecords(got, l) {
		t.Errorf("P22.3: the records are %.800v, want %.800v", got, l)
	}
}

// wantOpened: the journal of this name with these records, and what is told is where the last of them ends.
func wantOpened(t *testing.T, b, name string, l []api.Record) {
	t.Helper()
	j, n, err := journal.Open([]byte(b))
	if want := plainJournal(name, l); j == nil || err != api.OK || n != len(want) {
		t.Errorf("P22.4: Open(%.800x) tells %d, %d, want %d", b, n, err, len(want))
		return
	}
	wantLog(t, j, name, l)
}

func wantNotOpened(t *testing.T, b string) {
	t.Helper()
	if j, n, err := journal.Open([]byte(b)); j != nil || n != 0 || err != api.ErrLog {
		t.Errorf("P22.4: Open(%.800x) is %v, %d, %d", b, j, n, err)
	}
}

// wantNotNoted: ErrReplay, and nothing changes.
func wantNotNoted(t *testing.T, j *journal.Log, l ...api.Record) {
	t.Helper()
	before := seenOf(j)
	for _, r := range l {
		if err := j.Note(r); err != api.ErrReplay {
			t.Errorf("P22.2: Note(%.400v) is %d", r, err)
		}
	}
	if seenOf(j) != before {
		t.Errorf("P22.2: what is refused changes the journal: %.400v", l)
	}
}

// seenIn: all that can be seen of a context without a change, as a text.
func seenIn(x *context.Context) string {
	var s strings.Builder
	fmt.Fprintf(&s, "%q\nown %+v\ncerts %x\nclauses %+v\n", x.Name(), x.Own(), x.Certs(), x.Clauses())
	for _, text := range texts("ok(X)?", "W says p(X)?") {
		reply, f := x.Query(text, 6000)
		answers, other := x.Ask(text)
		fmt.Fprintf(&s, "%s: %+v %v; %+v %v\n", text, reply, f, answers, other)
	}
	return s.String()
}

// signed: all that can be seen of a ring: who has a key, and what each signed.
func signed(r *keys.Ring) string {
	var s strings.Builder
	for _, name := range r.Names() {
		fmt.Fprintf(&s, "%q: %x\n", name, r.Signed(name))
	}
	return s.String()
}

// played: a context on which all of the records were played; false, if one is refused.
func played(t *testing.T, r *keys.Ring, name string, l []api.Record) (*context.Context, bool) {
	t.Helper()
	x, err := context.New(r, name)
	if err != api.OK {
		t.Fatalf("the context of %q: %d", name, err)
	}
	for _, change := range l {
		if x.Play(change) != api.OK {
			return nil, false
		}
	}
	return x, true
}

// wantAgain: the context on which all of the records were played; the ring and the journal stay.
func wantAgain(t *testing.T, j *journal.Log, r *keys.Ring) *context.Context {
	t.Helper()
	before, ring := seenOf(j), signed(r)
	x, err := j.Again(r)
	if x == nil || err != api.OK {
		t.Fatalf("P22.5: Again of %s: %d", before, err)
	}
	want, all := played(t, r, j.Name(), j.Records())
	if !all || seenIn(x) != seenIn(want) {
		t.Errorf("P22.5: Again makes\n%s", seenIn(x))
	}
	if seenOf(j) != before || signed(r) != ring {
		t.Errorf("P22.5: Again changes the journal or the ring: %s", before)
	}
	return x
}

func wantNotAgain(t *testing.T, j *journal.Log, r *keys.Ring, want api.Errno) {
	t.Helper()
	before, ring := seenOf(j), signed(r)
	if x, err := j.Again(r); x != nil || err != want {
		t.Errorf("P22.5: Again of %.400s is %v, %d, want %d", before, x, err, want)
	}
	if seenOf(j) != before || signed(r) != ring {
		t.Errorf("P22.5: Again changes the journal or the ring: %.400s", before)
	}
}
