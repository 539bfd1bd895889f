package keys_test

import (
	"slices"
	"testing"

	"hearsay/api"
	"hearsay/digest"
	"hearsay/keys"
)

// P18.4 to P18.6: Sign, Verify, Signed.

// TestSeals: beside the keyed digests of the project and of the library.
func TestSeals(t *testing.T) {
	for _, secret := range secrets() {
		r := ringOf(t, secret, risingNames()...)
		for _, name := range risingNames() {
			key := digest.Mac([]byte(secret), []byte(name))
			for _, d := range []api.Digest{{}, sum(name), filled(0xff)} {
				s := sign(t, r, name, d)
				if s != digest.Mac(key[:], d[:]) || s != sealOf(secret, name, d) {
					t.Errorf("P18.4: %.20q: Sign(%q, %x) is %x", secret, name, d, s)
				}
				wantVerify(t, r, name, d, s, true)
			}
		}
	}
}

// TestSealsWorkedElsewhere: by another program.
func TestSealsWorkedElsewhere(t *testing.T) {
	for _, x := range []struct {
		secret, name string
		d            api.Digest
		want         string
	}{
		{"s", "alice", sum("d"), "20d148149dc03f8ecc7d478eb804e15a44c2da306c56c24018b1289425525158"},
		{"", "\xff", api.Digest{}, "10facc1ddc9c36a599966ba4e37bfcda4992de6db5f5a481013e5eeecfaf99c7"},
		{"xxxxxxxxxxxxxxxxxxxxxxxxxxxxxxxxxxxxxxxxxxxxxxxxxxxxxxxxxxxxxxxxx", long(64), filled(0xff), "acd87ad0928e95651033227ac51a2fd2b9abbf344c47d8ed3fbdceb265a43093"},
	} {
		if s := sign(t, ringOf(t, x.secret, x.name), x.name, x.d); s != fromHex(t, x.want) {
			t.Errorf("P18.4: %q, %q, %x: the seal is %x, want %s", x.secret, x.name, x.d, s, x.want)
		}
	}
}

// TestSignOfUnknown: nothing is signed by it, not even when it is enrolled afterwards.
func TestSignOfUnknown(t *testing.T) {
	r := ringOf(t, "s", "bob")
	for _, name := range slices.Concat(noPrincipals(), risingNames()) {
		if name == "bob" {
			continue
		}
		for _, d := range risingDigests() {
			wantUnknown(t, r, "s", name, d)
		}
	}
	wantNames(t, r, "bob")
	wantSigned(t, r, "bob")

	wantUnknown(t, r, "s", "carl", sum("d"))
	wantEnroll(t, r, "carl", api.OK)
	wantSigned(t, r, "carl")
	worked := sealOf("s", "carl", sum("d"))
	wantVerify(t, r, "carl", sum("d"), worked, false)
	wantVerify(t, r, "carl", sum("d"), api.Digest{}, false)
	if s := sign(t, r, "carl", sum("d")); s != worked {
		t.Errorf("P18.4: the seal is %x, want %x", s, worked)
	}
	wantVerify(t, r, "carl", sum("d"), worked, true)
	wantSigned(t, r, "carl", sum("d"))
}

// TestSignTwice: the same seal, signed once.
func TestSignTwice(t *testing.T) {
	w := watch(t, "s")
	names, digests := texts("alice", "bob"), []api.Digest{{}, sum("d"), sum("e")}
	for _, name := range names {
		w.do(call{kind: callEnroll, name: name})
	}
	first := map[pair]api.Digest{}
	for range 3 {
		for _, name := range names {
			for _, d := range digests {
				s := w.do(call{kind: callSign, name: name, d: d}).given
				if before, twice := first[pair{name, d}]; twice && before != s {
					t.Errorf("P18.4: the seal of %s and %x is %x, and was %x", name, d, s, before)
				}
				first[pair{name, d}] = s
				w.look(names, digests)
			}
		}
	}
}

// TestVerifyOfEachPair: of some pairs that are signed and some that aren't, with every pair's seal.
func TestVerifyOfEachPair(t *testing.T) {
	names := texts("alice", "bob", "carl", "a", "\xff")
	digests := []api.Digest{{}, sum("d"), sum("e"), changed(sum("d"), 31, 1), filled(0xff)}
	var all []pair
	for _, name := range append(names, "dan") {
		for _, d := range digests {
			all = append(all, pair{name, d})
		}
	}
	r := ringOf(t, "s", names...)
	var signed []pair
	for i, x := range all {
		if i%2 == 0 && x.name != "dan" {
			sign(t, r, x.name, x.d)
			signed = append(signed, x)
		}
	}
	for _, x := range all {
		for _, y := range all {
			wantVerify(t, r, x.name, x.d, sealOf("s", y.name, y.d), x == y && slices.Contains(signed, x))
		}
	}
}

// TestVerifyOfChangedSeals: one bit is enough, whichever it is; of the digest too.
func TestVerifyOfChangedSeals(t *testing.T) {
	r := ringOf(t, "s", "alice")
	s := sign(t, r, "alice", sum("d"))
	for place := range 32 {
		for bit := range 8 {
			wantVerify(t, r, "alice", sum("d"), changed(s, place, 1<<bit), false)
			wantVerify(t, r, "alice", changed(sum("d"), place, 1<<bit), s, false)
			near := changed(sum("d"), place, 1<<bit)
			wantVerify(t, r, "alice", near, sealOf("s", "alice", near), false)
		}
		wantVerify(t, r, "alice", sum("d"), changed(s, place, 0xff), false)
	}
	wantVerify(t, r, "alice", sum("d"), s, true)
}

// TestVerifyOfNearThings: what might be taken for a seal, and what other rings would take.
func TestVerifyOfNearThings(t *testing.T) {
	r := ringOf(t, "s", "alice", "bob", "alice2")
	d := sum("d")
	s := sign(t, r, "alice", d)
	key := mac([]byte("s"), []byte("alice"))
	reversed := s
	slices.Reverse(reversed[:])
	for _, x := range []api.Digest{{}, d, key, mac([]byte("s"), d[:]), mac(d[:], key[:]), sum(string(key[:]) + string(d[:])), sealOf("t", "alice", d), sealOf("", "alice", d), sealOf("s", "", d), reversed, filled(0xff)} {
		wantVerify(t, r, "alice", d, x, false)
	}
	for _, name := range slices.Concat(noPrincipals(), texts("bob", "alice2", "Alice", "alic", "alice ", "alice\x00", "carl")) {
		wantVerify(t, r, name, d, s, false)
		wantVerify(t, r, name, d, sealOf("s", name, d), false)
	}
	wantVerify(t, r, "alice", d, s, true)
}

// TestVerifyChangesNothing: however often it is asked, and whatever it answers.
func TestVerifyChangesNothing(t *testing.T) {
	w := watch(t, "s")
	names := texts("alice", "bob", "carl", "", long(65))
	for _, x := range []call{{kind: callEnroll, name: "alice"}, {kind: callEnroll, name: "bob"}, {kind: callSign, name: "alice", d: sum("d")}} {
		w.do(x)
	}
	for range 3 {
		for _, name := range names {
			for _, d := range risingDigests() {
				for _, seal := range []api.Digest{sealOf("s", name, d), {}, sealOf("s", "alice", sum("d"))} {
					w.do(call{kind: callVerify, name: name, d: d, seal: seal})
				}
			}
		}
		w.look(names, risingDigests())
	}
}

// TestSigned: none, one, several, signed in any order and often; each once, in rising order.
func TestSigned(t *testing.T) {
	c := newChosen(2)
	rising := risingDigests()
	for round := range 30 {
		r := ringOf(t, "s", "alice", "bob", "alic")
		wantSigned(t, r, "alice")
		var taken []int
		for _, i := range c.Perm(len(rising)) {
			sign(t, r, "alice", rising[i])
			taken = append(taken, i)
			if len(taken)%3 == 0 {
				sign(t, r, "alice", rising[one(c, taken...)])
			}
			var want []api.Digest
			for _, k := range slices.Sorted(slices.Values(taken)) {
				want = append(want, rising[k])
			}
			wantSigned(t, r, "alice", want...)
		}
		for _, name := range slices.Concat(noPrincipals(), texts("bob", "alic", "carl", "alicee")) {
			wantSigned(t, r, name)
		}
		sign(t, r, "bob", rising[round%len(rising)])
		wantSigned(t, r, "bob", rising[round%len(rising)])
		wantSigned(t, r, "alice", rising...)
	}
}

// TestSignedMany: several thousand, of several principals.
func TestSignedMany(t *testing.T) {
	w := watch(t, "s")
	names := texts("alice", "bob", "carl", "dan")
	for _, name := range names[:3] {
		w.do(call{kind: callEnroll, name: name})
	}
	c := newChosen(3)
	for i := range 2500 {
		x := call{kind: callSign, name: one(c, names...), d: sum(string(rune(c.Intn(1500))))}
		got := x.of(w.r)
		if want := x.ofPlain(w.p); !got.same(want) {
			t.Fatalf("P18.4: the call %d is answered %v, want %v", i, got, want)
		}
	}
	w.look(names, nil)
	if len(w.p.pairs) < 1500 {
		t.Errorf("just %d pairs", len(w.p.pairs))
	}
}

// TestLooksChangeNothing: nor do calls that are refused.
func TestLooksChangeNothing(t *testing.T) {
	plain, looked := keys.New([]byte("s")), keys.New([]byte("s"))
	for i, name := range risingNames() {
		for _, r := range []*keys.Ring{plain, looked} {
			wantEnroll(t, r, name, api.OK)
			sign(t, r, name, risingDigests()[i%7])
		}
		for _, other := range slices.Concat(risingNames()[i+1:], noPrincipals()[:5]) {
			looked.Has(other)
			looked.Names()
			looked.Signed(other)
			looked.Sign(other, sum("x"))
			looked.Verify(name, sum("x"), sealOf("s", name, sum("x")))
		}
		if !slices.Equal(plain.Names(), looked.Names()) || !slices.Equal(plain.Signed(name), looked.Signed(name)) {
			t.Errorf("P18.3 to P18.6: looks have changed the ring: %q", name)
		}
	}
}
