package cert_test

import (
	"crypto/hmac"
	"crypto/sha256"
	"encoding/hex"
	"slices"
	"strings"
	"testing"

	"hearsay/api"
	"hearsay/cert"
	"hearsay/keys"
)

const (
	leastInt    = -1 << 63
	greatestInt = 1<<63 - 1
)

var none = api.Term{}

func num(n int) api.Term    { return api.Term{Kind: api.KindNum, N: n} }
func txt(s string) api.Term { return api.Term{Kind: api.KindText, S: s} }
func v(n int) api.Term      { return api.Term{Kind: api.KindVar, N: n} }

func long(n int) string { return strings.Repeat("a", n) }

func texts(l ...string) []string { return l }

func nTimes[T any](n int, x T) []T { return slices.Repeat([]T{x}, n) }

func atom(name string, args ...api.Term) api.Atom { return api.Atom{Name: name, Args: args} }

func says(by api.Term, name string, args ...api.Term) api.Atom {
	return api.Atom{By: by, Name: name, Args: args}
}

func test(op int, l, r api.Term) api.Test { return api.Test{Op: op, L: l, R: r} }

func rule(head api.Atom, body ...api.Atom) api.Clause { return api.Clause{Head: head, Body: body} }

func fact(name string) api.Clause { return rule(atom(name)) }

func with(c api.Clause, tests ...api.Test) api.Clause {
	c.Tests = tests
	return c
}

func saidBy(by api.Term, c api.Clause) api.Clause {
	c.Head.By = by
	return c
}

// unhex: the bytes that a text in hexadecimal tells; blanks and bars stand for nothing.
func unhex(text string) string {
	b, err := hex.DecodeString(strings.NewReplacer(" ", "", "|", "").Replace(text))
	if err != nil {
		panic(err)
	}
	return string(b)
}

// sum: the digest of bytes, by the library.
func sum(b string) api.Digest { return sha256.Sum256([]byte(b)) }

// mac: the keyed digest, by the library.
func mac(key, b []byte) api.Digest {
	h := hmac.New(sha256.New, key)
	h.Write(b)
	return api.Digest(h.Sum(nil))
}

// sealOf: by chapter 18's words.
func sealOf(secret, name string, d api.Digest) api.Digest {
	key := mac([]byte(secret), []byte(name))
	return mac(key[:], d[:])
}

// sealed: the body with its signer's seal behind it, only worked out.
func sealed(secret, u, body string) string {
	seal := sealOf(secret, u, sum(body))
	return body + string(seal[:])
}

// bodyOf: all of a certificate but its seal.
func bodyOf(b string) string { return b[:len(b)-32] }

func turned(b string, place int, bits byte) string {
	l := []byte(b)
	l[place] ^= bits
	return string(l)
}

func sameAtom(a, b api.Atom) bool {
	return a.Name == b.Name && a.By == b.By && slices.Equal(a.Args, b.Args)
}

// same: field by field, nil and empty lists being one.
func same(a, b api.Clause) bool {
	return sameAtom(a.Head, b.Head) && slices.EqualFunc(a.Body, b.Body, sameAtom) && slices.Equal(a.Tests, b.Tests)
}

func sameCert(a, b api.Cert) bool {
	return a.Signer == b.Signer && a.Seal == b.Seal && same(a.Clause, b.Clause)
}

// ringOf: a ring on which the principals are enrolled.
func ringOf(t *testing.T, secret string, names ...string) *keys.Ring {
	t.Helper()
	r := keys.New([]byte(secret))
	for _, name := range names {
		if err := r.Enroll(name); err != api.OK {
			t.Fatalf("Enroll(%q): %d", name, err)
		}
	}
	return r
}

// issued: it must be answered OK.
func issued(t *testing.T, r *keys.Ring, u string, c api.Clause) string {
	t.Helper()
	b, err := cert.Issue(r, u, c)
	if err != api.OK {
		t.Fatalf("P19.2: Issue(%q, %+v): %d", u, c, err)
	}
	return string(b)
}

func wantBody(t *testing.T, u string, c api.Clause, want string) {
	t.Helper()
	if b, err := cert.Body(u, c); string(b) != want || err != api.OK {
		t.Errorf("P19.1: Body(%.70q, %+v) is %x, %d, want %x", u, c, b, err, want)
	}
}

func wantNoBody(t *testing.T, u string, c api.Clause, want api.Errno) {
	t.Helper()
	if b, err := cert.Body(u, c); len(b) != 0 || err != want {
		t.Errorf("P19.1: Body(%.70q, %+v) is %x, %d, want %d", u, c, b, err, want)
	}
}

// wantIssued: these bytes, and the pair is signed, nothing else.
func wantIssued(t *testing.T, r *keys.Ring, u string, c api.Clause, want string) {
	t.Helper()
	expected := seen(r)
	if d := sum(bodyOf(want)); !slices.Contains(expected[u], d) {
		expected[u] = append(expected[u], d)
		slices.SortFunc(expected[u], func(x, y api.Digest) int { return slices.Compare(x[:], y[:]) })
	}
	if b, err := cert.Issue(r, u, c); string(b) != want || err != api.OK {
		t.Errorf("P19.2: Issue(%.70q, %+v) is %x, %d, want %x", u, c, b, err, want)
	}
	wantSeen(t, r, expected)
}

// wantNotIssued: with this error, and nothing is signed.
func wantNotIssued(t *testing.T, r *keys.Ring, u string, c api.Clause, want api.Errno) {
	t.Helper()
	before := seen(r)
	if b, err := cert.Issue(r, u, c); len(b) != 0 || err != want {
		t.Errorf("P19.2: Issue(%.70q, %+v) is %x, %d, want %d", u, c, b, err, want)
	}
	wantSeen(t, r, before)
}

func wantRead(t *testing.T, b string, want api.Cert) {
	t.Helper()
	if c, err := cert.Read([]byte(b)); !sameCert(c, want) || err != api.OK {
		t.Errorf("P19.3: Read(%x) is %+v, %d, want %+v", b, c, err, want)
	}
}

// wantNotRead: with this error, and beside it the zero answer; nor is it opened, with the same error, though its body was signed.
func wantNotRead(t *testing.T, b string, want api.Errno) {
	t.Helper()
	if c, err := cert.Read([]byte(b)); !sameCert(c, api.Cert{}) || err != want {
		t.Errorf("P19.3: Read(%x) is %+v, %d, want %d", b, c, err, want)
	}
	r := ringOf(t, "s", "ann")
	if len(b) >= 32 {
		r.Sign("ann", sum(bodyOf(b)))
	}
	wantRefused(t, r, b, want)
}

// wantOpened: and nothing changes on the ring.
func wantOpened(t *testing.T, r *keys.Ring, b string, want api.Cert) {
	t.Helper()
	before := seen(r)
	if c, err := cert.Open(r, []byte(b)); !sameCert(c, want) || err != api.OK {
		t.Errorf("P19.4: Open(%x) is %+v, %d, want %+v", b, c, err, want)
	}
	wantSeen(t, r, before)
}

// wantRefused: by Open, with this error; and nothing changes on the ring.
func wantRefused(t *testing.T, r *keys.Ring, b string, want api.Errno) {
	t.Helper()
	before := seen(r)
	if c, err := cert.Open(r, []byte(b)); !sameCert(c, api.Cert{}) || err != want {
		t.Errorf("P19.4: Open(%x) is %+v, %d, want %d", b, c, err, want)
	}
	wantSeen(t, r, before)
}

// seen: all that can be seen of a ring: who has a key, and what each signed.
func seen(r *keys.Ring) map[string][]api.Digest {
	out := map[string][]api.Digest{}
	for _, name := range r.Names() {
		out[name] = r.Signed(name)
	}
	return out
}

func wantSeen(t *testing.T, r *keys.Ring, want map[string][]api.Digest) {
	t.Helper()
	got := seen(r)
	if len(got) != len(want) {
		t.Errorf("P19.2, P19.4: the ring has %d principals, want %d", len(got), len(want))
	}
	for name, l := range want {
		if !slices.Equal(got[name], l) {
			t.Errorf("P19.2, P19.4: %q has signed %x, want %x", name, got[name], l)
		}
	}
}
