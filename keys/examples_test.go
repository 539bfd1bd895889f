package keys_test

import (
	"testing"

	"hearsay/api"
	"hearsay/digest"
	"hearsay/keys"
)

// The examples of chapter 18, each behind the ones ahead of it.

func TestExamples(t *testing.T) {
	r := keys.New([]byte("s"))
	exampleOfEnroll(t, r)
	d := sum("d")
	s := exampleOfSign(t, r, d)
	exampleOfSigned(t, r, d)
	exampleOfAnotherRing(t, d, s)
}

func exampleOfEnroll(t *testing.T, r *keys.Ring) {
	wantNames(t, r)
	wantEnroll(t, r, "alice", api.OK)
	wantNames(t, r, "alice")
	wantEnroll(t, r, "alice", api.ErrEnrolled)
	wantEnroll(t, r, "", api.ErrPrincipal)
	wantEnroll(t, r, long(64), api.OK)
	wantEnroll(t, r, long(65), api.ErrPrincipal)
	wantEnroll(t, r, "bob", api.OK)
	wantNames(t, r, long(64), "alice", "bob")
}

func exampleOfSign(t *testing.T, r *keys.Ring, d api.Digest) api.Digest {
	if x, err := r.Sign("carl", d); x != (api.Digest{}) || err != api.ErrUnknown {
		t.Errorf("P18.4: %x, %d, want zeros and ErrUnknown", x, err)
	}
	key := digest.Mac([]byte("s"), []byte("alice"))
	worked := digest.Mac(key[:], d[:])
	for _, x := range []api.Digest{{}, d, key, worked, sum("x"), filled(0xff)} {
		wantVerify(t, r, "alice", d, x, false)
	}
	s := sign(t, r, "alice", d)
	if s != worked {
		t.Errorf("P18.4: the seal is %x, want %x", s, worked)
	}
	wantVerify(t, r, "alice", d, s, true)
	wantVerify(t, r, "alice", d, sum("x"), false)
	wantVerify(t, r, "alice", sum("e"), s, false)
	wantVerify(t, r, "bob", d, s, false)
	return s
}

func exampleOfSigned(t *testing.T, r *keys.Ring, d api.Digest) {
	wantSigned(t, r, "alice", d)
	sign(t, r, "alice", d)
	wantSigned(t, r, "alice", d)
	wantSigned(t, r, "carl")
}

func exampleOfAnotherRing(t *testing.T, d, s api.Digest) {
	q := keys.New([]byte("s"))
	wantEnroll(t, q, "alice", api.OK)
	wantVerify(t, q, "alice", d, s, false)
	if x := sign(t, q, "alice", d); x != s {
		t.Errorf("P18.7: the seal is %x, on the other ring %x", x, s)
	}
	wantVerify(t, q, "alice", d, s, true)
}

func TestExampleOfAFullRing(t *testing.T) {
	names := numberedNames(257)
	r := ringOf(t, "s", names[:256]...)
	wantEnroll(t, r, names[256], api.ErrRing)
	for _, name := range names[:256] {
		wantEnroll(t, r, name, api.ErrEnrolled)
	}
	wantEnroll(t, r, "", api.ErrPrincipal)
}
