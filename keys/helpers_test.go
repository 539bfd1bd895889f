package keys_test

import (
	"crypto/hmac"
	"crypto/sha256"
	"encoding/hex"
	"slices"
	"strconv"
	"strings"
	"testing"

	"hearsay/api"
	"hearsay/keys"
)

func long(n int) string { return strings.Repeat("a", n) }

func texts(l ...string) []string { return l }

// sum: the digest of a text, by the library.
func sum(text string) api.Digest { return sha256.Sum256([]byte(text)) }

// mac: the keyed digest, by the library.
func mac(key, b []byte) api.Digest {
	h := hmac.New(sha256.New, key)
	h.Write(b)
	return api.Digest(h.Sum(nil))
}

// sealOf: by the chapter's words.
func sealOf(secret, name string, d api.Digest) api.Digest {
	key := mac([]byte(secret), []byte(name))
	return mac(key[:], d[:])
}

func fromHex(t *testing.T, text string) api.Digest {
	t.Helper()
	b, err := hex.DecodeString(text)
	if err != nil || len(b) != 32 {
		t.Fatalf("%q is no digest", text)
	}
	return api.Digest(b)
}

// filled: the digest all of whose bytes are this one.
func filled(b byte) api.Digest { return api.Digest(slices.Repeat([]byte{b}, 32)) }

// changed: the digest with one byte changed by these bits.
func changed(d api.Digest, place int, bits byte) api.Digest {
	d[place] ^= bits
	return d
}

// risingDigests: in rising order of their bytes; each byte counts, as a number without a sign.
func risingDigests() []api.Digest {
	return []api.Digest{
		{}, {31: 1}, {31: 0x7f}, {31: 0x80}, {31: 0xff}, {30: 1}, {30: 1, 31: 1}, {16: 1}, {15: 1}, {1: 0x7f}, {1: 0x80}, {1: 0xff, 31: 0xff},
		{0: 1}, {0: 1, 31: 1}, sum("d"), {0: 0x7f, 1: 0xff}, {0: 0x80}, {0: 0x80, 31: 1}, {0: 0xff}, changed(filled(0xff), 31, 1), filled(0xff),
	}
}

// risingNames: principals, in rising order of their bytes; among them beginnings of one another, and such as no text has.
func risingNames() []string {
	return texts(
		"\x00", strings.Repeat("\x00", 64), "\x00a", "\n", " ", "  ", "\"", "0", "10", "9", "A", "X", "Z", "_", "a", "a\x00", "a ", long(2), long(63), long(64), "aaab", "ab",
		"alice", "alice says", "alicf", "a\x7f", "a\x80", "a\xff", "b", "bob", "says", "z", "\x7f", "\x80", "\xc3(", "é", strings.Repeat("é", 32), "\xef\xbf\xbf", "\xf0\x90\x80\x80", "\xff", "\xff\x00", strings.Repeat("\xff", 64),
	)
}

// noPrincipals: texts of no bytes, and of more than MaxConst, whatever they are.
func noPrincipals() []string {
	return texts("", long(65), long(66), long(128), long(256), long(1<<20), strings.Repeat("\x00", 65), strings.Repeat("\xff", 65), strings.Repeat("é", 33), strings.Repeat("é", 64), "alice"+strings.Repeat(" ", 60))
}

func numberedNames(n int) []string {
	var l []string
	for i := range n {
		l = append(l, "k"+strconv.Itoa(i))
	}
	return l
}

// ringOf: a ring on which the principals are enrolled.
func ringOf(t *testing.T, secret string, names ...string) *keys.Ring {
	t.Helper()
	r := keys.New([]byte(secret))
	for _, name := range names {
		if err := r.Enroll(name); err != api.OK {
			t.Fatalf("P18.2: Enroll(%q): %d", name, err)
		}
	}
	return r
}

// sign: it must be answered OK.
func sign(t *testing.T, r *keys.Ring, name string, d api.Digest) api.Digest {
	t.Helper()
	seal, err := r.Sign(name, d)
	if err != api.OK {
		t.Fatalf("P18.4: Sign(%q, %x): %d", name, d, err)
	}
	return seal
}

func wantEnroll(t *testing.T, r *keys.Ring, name string, want api.Errno) {
	t.Helper()
	if err := r.Enroll(name); err != want {
		t.Errorf("P18.2: Enroll of %d bytes, %.20q: %d, want %d", len(name), name, err, want)
	}
}

func wantNames(t *testing.T, r *keys.Ring, want ...string) {
	t.Helper()
	if got := r.Names(); !slices.Equal(got, want) {
		t.Errorf("P18.3: Names is %q, want %q", got, want)
	}
}

func wantHas(t *testing.T, r *keys.Ring, name string, want bool) {
	t.Helper()
	if got := r.Has(name); got != want {
		t.Errorf("P18.3: Has of %d bytes, %.20q: %t", len(name), name, got)
	}
}

func wantVerify(t *testing.T, r *keys.Ring, name string, d, seal api.Digest, want bool) {
	t.Helper()
	if got := r.Verify(name, d, seal); got != want {
		t.Errorf("P18.5: Verify(%.20q, %x, %x): %t", name, d, seal, got)
	}
}

func wantSigned(t *testing.T, r *keys.Ring, name string, want ...api.Digest) {
	t.Helper()
	if got := r.Signed(name); !slices.Equal(got, want) {
		t.Errorf("P18.6: Signed(%.20q) is %x, want %x", name, got, want)
	}
}

// wantUnknown: the name has no key, so nothing is signed by it and it can't sign.
func wantUnknown(t *testing.T, r *keys.Ring, secret, name string, d api.Digest) {
	t.Helper()
	wantHas(t, r, name, false)
	if seal, err := r.Sign(name, d); err != api.ErrUnknown || seal != (api.Digest{}) {
		t.Errorf("P18.4: Sign(%.20q, %x) is %x, %d, want zeros and ErrUnknown", name, d, seal, err)
	}
	wantVerify(t, r, name, d, sealOf(secret, name, d), false)
	wantVerify(t, r, name, d, api.Digest{}, false)
	wantSigned(t, r, name)
}
