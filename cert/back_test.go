package cert_test

import (
	"slices"
	"strings"
	"testing"

	"hearsay/api"
	"hearsay/cert"
)

// P19.6: there and back.

// wantBack: what is issued says what was meant, for Read and for Open; its parts make up the same bytes again; no beginning of it is taken, and nothing behind it.
func wantBack(t *testing.T, u string, c api.Clause) string {
	t.Helper()
	r := ringOf(t, "s", u)
	b := issued(t, r, u, c)
	body := bodyOf(b)
	want := api.Cert{Signer: u, Clause: c, Seal: sealOf("s", u, sum(body))}
	wantRead(t, b, want)
	wantOpened(t, r, b, want)
	read, _ := cert.Read([]byte(b))
	wantBody(t, read.Signer, read.Clause, body)
	if body+string(read.Seal[:]) != b {
		t.Errorf("P19.6: the seal of %x is read as %x", b, read.Seal)
	}
	if len(b) >= 8192 {
		t.Errorf("P19.6: a certificate of %d bytes", len(b))
	}
	wantNoBeginning(t, b)
	for _, behind := range texts("\x00", "\xff", "ab", seals()[0], b) {
		if got, err := cert.Open(r, []byte(b+behind)); err != api.ErrTail || !sameCert(got, api.Cert{}) {
			t.Errorf("P19.6: %x with %x behind it: %d", b, behind, err)
		}
	}
	return b
}

// wantNoBeginning: of the bytes that Read takes.
func wantNoBeginning(t *testing.T, b string) {
	t.Helper()
	for n := range b {
		want := api.ErrShort
		if n < 4 {
			want = api.ErrMagic
		}
		if c, err := cert.Read([]byte(b[:n])); err != want || !sameCert(c, api.Cert{}) {
			t.Errorf("P19.6: the first %d bytes of %x: %d, want %d", n, b, err, want)
		}
	}
}

// TestThereAndBack: every kind of principal and of clause; different ones have different bytes, and none is the beginning of another.
func TestThereAndBack(t *testing.T) {
	all := map[string]string{}
	take := func(u string, c api.Clause) {
		b := wantBack(t, u, c)
		what := textBytes(u) + clauseBytes(c)
		if other, twice := all[b]; twice && other != what {
			t.Errorf("P19.6: two things have the bytes %x", b)
		}
		all[b] = what
	}
	for _, u := range principals() {
		for _, c := range smallClauses() {
			take(u, c)
		}
	}
	for _, c := range validClauses() {
		take("ann", c)
	}
	var sorted []string
	for b := range all {
		sorted = append(sorted, b)
	}
	slices.Sort(sorted)
	for i := 1; i < len(sorted); i++ {
		if strings.HasPrefix(sorted[i], sorted[i-1]) {
			t.Errorf("P19.6: %x is the beginning of another certificate", sorted[i-1])
		}
	}
	if len(all) < 500 {
		t.Errorf("just %d certificates", len(all))
	}
}

// TestGreatest: the longest signer says the longest clause.
func TestGreatest(t *testing.T) {
	for _, u := range texts(long(64), strings.Repeat("\xff", 64)) {
		// 4 + 65 + 32; the head 1 + 33 + 1 + 8 * 66; a body atom 66 + 33 + 1 + 8 * 66; a test 1 + 2 * 66; two counts.
		if b := wantBack(t, u, longestClause()); len(b) != 101+563+8*628+8*133+2 {
			t.Errorf("P19.6: the greatest certificate has %d bytes", len(b))
		}
		wantBack(t, u, mostVariables())
	}
}

// TestBackByChance: whatever bytes are read, whoever made them, what was read is written as these.
func TestBackByChance(t *testing.T) {
	c := newChosen(196)
	read := 0
	for range 20000 {
		b := c.spoilt(plainBody(one(c, principals()...), one(c, smallClauses()...)) + one(c, seals()...))
		got, err := cert.Read([]byte(b))
		if err != api.OK {
			continue
		}
		read++
		wantBody(t, got.Signer, got.Clause, bodyOf(b))
		if string(got.Seal[:]) != b[len(b)-32:] {
			t.Errorf("P19.6: the seal of %x is read as %x", b, got.Seal)
		}
	}
	if read < 1000 {
		t.Errorf("just %d were read", read)
	}
}
