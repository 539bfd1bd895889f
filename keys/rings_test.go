package keys_test

import (
	"testing"

	"hearsay/api"
	"hearsay/keys"
)

// P18.7: two rings have nothing to do with one another.

func TestTwoRingsWithOneSecret(t *testing.T) {
	secret := []byte("s")
	x, y := keys.New(secret), keys.New(secret)
	wantEnroll(t, x, "alice", api.OK)
	wantHas(t, y, "alice", false)
	wantNames(t, y)
	wantUnknown(t, y, "s", "alice", sum("d"))

	s := sign(t, x, "alice", sum("d"))
	wantUnknown(t, y, "s", "alice", sum("d"))
	wantEnroll(t, y, "alice", api.OK)
	wantVerify(t, y, "alice", sum("d"), s, false)
	wantSigned(t, y, "alice")

	if other := sign(t, y, "alice", sum("e")); other != sealOf("s", "alice", sum("e")) {
		t.Errorf("P18.7: the seal is %x", other)
	}
	wantSigned(t, x, "alice", sum("d"))
	wantSigned(t, y, "alice", sum("e"))
	wantVerify(t, x, "alice", sum("e"), sealOf("s", "alice", sum("e")), false)

	if again := sign(t, y, "alice", sum("d")); again != s {
		t.Errorf("P18.7: the seals are %x and %x", again, s)
	}
	wantVerify(t, x, "alice", sum("d"), s, true)
	wantVerify(t, y, "alice", sum("d"), s, true)
}

func TestTwoRingsWithDifferentSecrets(t *testing.T) {
	for i, secret := range secrets() {
		for _, other := range secrets()[:i] {
			x, y := ringOf(t, secret, "alice"), ringOf(t, other, "alice")
			s, o := sign(t, x, "alice", sum("d")), sign(t, y, "alice", sum("d"))
			if s == o {
				t.Errorf("P18.4: %.20q and %.20q give one seal", secret, other)
			}
			wantVerify(t, x, "alice", sum("d"), o, false)
			wantVerify(t, y, "alice", sum("d"), s, false)
			wantVerify(t, x, "alice", sum("d"), s, true)
			wantVerify(t, y, "alice", sum("d"), o, true)
		}
	}
}

// TestOneRingIsFull: another isn't.
func TestOneRingIsFull(t *testing.T) {
	full, other := ringOf(t, "s", numberedNames(256)...), keys.New([]byte("s"))
	wantNames(t, other)
	wantEnroll(t, full, "alice", api.ErrRing)
	wantEnroll(t, other, "alice", api.OK)
	wantEnroll(t, other, "k0", api.OK)
	wantNames(t, other, "alice", "k0")
	wantHas(t, full, "alice", false)
}

// TestRingsInTurns: calls by chance to several rings, two of them with one secret, each beside a plain one.
func TestRingsInTurns(t *testing.T) {
	for seed := range int64(60) {
		c := newChosen(seed)
		rings := []*watched{watch(t, "s"), watch(t, "s"), watch(t, "t"), watch(t, "")}
		names, digests := c.some(risingNames(), 4), c.digests(3)
		for range 120 {
			w := one(c, rings...)
			w.do(c.call(one(c, rings...).p.secret, names, digests))
		}
		for _, w := range rings {
			w.look(names, digests)
		}
	}
}
