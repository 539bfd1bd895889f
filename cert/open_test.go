package cert_test

import (
	"slices"
	"strings"
	"testing"

	"hearsay/api"
	"hearsay/cert"
)

// P19.4, P19.5: Open, Id.

// said: what a certificate of these bytes says, by the plain reader.
func said(t *testing.T, b string) api.Cert {
	t.Helper()
	c, err := plainRead(b)
	if err != api.OK {
		t.Fatalf("no certificate: %x", b)
	}
	return c
}

// TestOpened: what was issued, by every kind of principal, of every kind of clause; as often as one likes.
func TestOpened(t *testing.T) {
	r := ringOf(t, "s", principals()...)
	var all []string
	for _, u := range principals() {
		for _, c := range smallClauses()[:5] {
			all = append(all, issued(t, r, u, c))
		}
	}
	for range 2 {
		for _, b := range all {
			wantOpened(t, r, b, said(t, b))
		}
	}
	for _, c := range validClauses() {
		q := ringOf(t, "s", "ann")
		b := issued(t, q, "ann", c)
		wantOpened(t, q, b, api.Cert{Signer: "ann", Clause: c, Seal: sealOf("s", "ann", sum(plainBody("ann", c)))})
	}
}

// TestAnyBitTurned: refused: with Read's error if it has one, else with ErrSeal.
func TestAnyBitTurned(t *testing.T) {
	r := ringOf(t, "s", "ann", "bob", "anm", "\x00", long(64))
	var all []string
	for _, u := range r.Names() {
		for _, c := range smallClauses() {
			all = append(all, issued(t, r, u, c))
		}
	}
	told := map[api.Errno]int{}
	for _, b := range all {
		for bit := range 8 * len(b) {
			other := turned(b, bit/8, 1<<(bit%8))
			_, err := plainRead(other)
			if err == api.OK {
				err = api.ErrSeal
			}
			told[err]++
			wantRefused(t, r, other, err)
		}
		wantOpened(t, r, b, said(t, b))
	}
	for _, err := range []api.Errno{api.ErrSeal, api.ErrMagic, api.ErrShort, api.ErrCode} {
		if told[err] < 100 {
			t.Errorf("too much alike: %v", told)
		}
	}
}

// TestOtherSignerClauseOrSeal: each signer, clause and seal of what was issued with each of the others: just what was issued is opened.
func TestOtherSignerClauseOrSeal(t *testing.T) {
	us, cs := texts("ann", "bob", "a", "an", "ann\x00"), smallClauses()[:6]
	r := ringOf(t, "s", us...)
	var all, given []string
	for i, u := range us {
		for k, c := range cs {
			b := sealed("s", u, plainBody(u, c))
			given = append(given, b[len(b)-32:])
			if (i+k)%2 == 0 {
				all = append(all, issued(t, r, u, c))
			}
		}
	}
	opened := 0
	for _, u := range append(us, "carl") {
		for _, c := range cs {
			for _, seal := range given {
				b := plainBody(u, c) + seal
				if slices.Contains(all, b) {
					opened++
					wantOpened(t, r, b, said(t, b))
				} else {
					wantRefused(t, r, b, api.ErrSeal)
				}
			}
		}
	}
	if opened != len(all) {
		t.Errorf("%d are opened of %d", opened, len(all))
	}
}

// TestSealsOnlyWorkedOut: by one who knows the key; of a principal that has one, and of others.
func TestSealsOnlyWorkedOut(t *testing.T) {
	r := ringOf(t, "s", "ann", "bob")
	issued(t, r, "ann", fact("on"))
	for _, u := range principals() {
		for _, c := range smallClauses() {
			b := sealed("s", u, plainBody(u, c))
			if u == "ann" && same(c, fact("on")) {
				wantOpened(t, r, b, said(t, b))
				continue
			}
			wantRefused(t, r, b, api.ErrSeal)
		}
	}
	b := sealed("s", "bob", plainBody("bob", fact("ok")))
	wantRefused(t, r, b, api.ErrSeal)
	wantIssued(t, r, "bob", fact("ok"), b)
	wantOpened(t, r, b, said(t, b))
}

// TestNearSeals: what might be taken for one.
func TestNearSeals(t *testing.T) {
	r := ringOf(t, "s", "ann", "bob")
	b := issued(t, r, "ann", fact("ok"))
	issued(t, r, "bob", fact("ok"))
	body, seal := bodyOf(b), []byte(b[15:])
	key, d := mac([]byte("s"), []byte("ann")), sum(body)
	reversed := slices.Clone(seal)
	slices.Reverse(reversed)
	whole := sum(b)
	worked := []api.Digest{{}, d, key, whole, mac(key[:], []byte(body)), mac([]byte("s"), d[:]), sealOf("t", "ann", d), sealOf("s", "bob", d), sealOf("s", "ann", whole), sealOf("s", "ann", sum(body[4:])), sealOf("s", "ann", sum(clauseBytes(fact("ok"))))}
	for _, x := range worked {
		wantRefused(t, r, body+string(x[:]), api.ErrSeal)
	}
	wantRefused(t, r, body+string(reversed), api.ErrSeal)
	wantOpened(t, r, b, said(t, b))
}

// TestReadsErrorsComeFirst: though the bytes, all of them but the last 32, were signed and are sealed.
func TestReadsErrorsComeFirst(t *testing.T) {
	for _, x := range []struct {
		body string
		want api.Errno
	}{
		{"", api.ErrMagic}, {"HSC", api.ErrMagic}, {"HSC2\x03ann" + clauseBytes(fact("ok")), api.ErrMagic},
		{"HSC1\x00" + clauseBytes(fact("ok")), api.ErrCode}, {"HSC1\x41" + long(65) + clauseBytes(fact("ok")), api.ErrCode}, {"HSC1\x40ann", api.ErrShort},
		{"HSC1\x03ann", api.ErrShort}, {"HSC1\x03ann\x00\x02ok\x00\x00", api.ErrShort}, {"HSC1\x03ann\x09", api.ErrCode}, {plainBody("ann", fact("ok")) + "\x00", api.ErrTail},
		{plainBody("ann", saidBy(txt("ann"), fact("ok"))), api.ErrCode}, {plainBody("ann", rule(atom("p", v(0)))), api.ErrCode},
	} {
		r := ringOf(t, "s", "ann")
		seal, _ := r.Sign("ann", sum(x.body))
		wantRefused(t, r, x.body+string(seal[:]), x.want)
		wantRefused(t, ringOf(t, "s"), x.body+string(seal[:]), x.want)
	}
}

// TestSignedWithoutIssue: what counts is what the ring signed, whoever laid the bytes.
func TestSignedWithoutIssue(t *testing.T) {
	for _, c := range smallClauses() {
		r := ringOf(t, "s", "ann", "bob")
		body := plainBody("ann", c)
		r.Sign("bob", sum(body))
		r.Sign("ann", sum(body+"\x00"))
		b := sealed("s", "ann", body)
		wantRefused(t, r, b, api.ErrSeal)
		r.Sign("ann", sum(b))
		wantRefused(t, r, b, api.ErrSeal)
		seal, _ := r.Sign("ann", sum(body))
		wantOpened(t, r, body+string(seal[:]), api.Cert{Signer: "ann", Clause: c, Seal: seal})
	}
}

// TestOtherRings: with the same secret or another one, with the signer or without: ErrSeal till it is issued there, which gives the same bytes just with the same secret.
func TestOtherRings(t *testing.T) {
	for _, secret := range texts("s", "t", "", long(65)) {
		for _, u := range principals() {
			r, other := ringOf(t, "s", u), ringOf(t, secret)
			c := smallClauses()[4]
			b := issued(t, r, u, c)
			wantRefused(t, other, b, api.ErrSeal)
			other.Enroll(u)
			wantRefused(t, other, b, api.ErrSeal)
			issued(t, other, u, fact("ok"))
			wantRefused(t, other, b, api.ErrSeal)
			again := issued(t, other, u, c)
			wantOpened(t, other, again, said(t, again))
			if secret == "s" {
				wantOpened(t, other, b, said(t, b))
			} else {
				wantRefused(t, other, b, api.ErrSeal)
				wantRefused(t, r, again, api.ErrSeal)
			}
			wantOpened(t, r, b, said(t, b))
			wantRefused(t, r, sealed("s", u, plainBody(u, fact("ok"))), api.ErrSeal)
		}
	}
}

// TestIds: of any bytes, whether they are a certificate or not.
func TestIds(t *testing.T) {
	all := texts("", "\x00", "HSC", "HSC1", exampleCert(), exampleCert()[:46], exampleCert()+"\x00", strings.Repeat("\x00", 32), strings.Repeat("a", 55), strings.Repeat("a", 56), strings.Repeat("a", 64), strings.Repeat("\xff", 100000))
	for _, c := range validClauses() {
		all = append(all, plainBody("ann", c)+seals()[1])
	}
	for _, b := range all {
		if id := cert.Id([]byte(b)); id != sum(b) {
			t.Errorf("P19.5: Id(%x) is %x, want %x", b, id, sum(b))
		}
	}
	if cert.Id(nil) != sum("") {
		t.Errorf("P19.5: Id of nil is %x", cert.Id(nil))
	}
}
