package keys_test

import (
	"slices"
	"testing"

	"hearsay/api"
	"hearsay/keys"
)

// P18.1 to P18.3: New, Enroll, Has, Names.

// secrets: of no bytes, short ones, and such as are longer than a block of the digest.
func secrets() []string {
	return texts("", "s", "t", "\xff", "secret", "a\x00b", long(31), long(32), long(33), long(63), long(64), long(65), long(66), long(127), long(128), long(129), long(1000), long(1<<16))
}

// TestNew: no principals, nothing signed, whatever the secret.
func TestNew(t *testing.T) {
	for _, secret := range secrets() {
		r := keys.New([]byte(secret))
		wantNames(t, r)
		for _, name := range slices.Concat(risingNames(), noPrincipals(), texts(secret)) {
			wantUnknown(t, r, secret, name, sum(name))
		}
		wantNames(t, r)
	}
}

// TestNewOfNil: as of no bytes.
func TestNewOfNil(t *testing.T) {
	for _, secret := range [][]byte{nil, {}, make([]byte, 0, 8), []byte("left")[:0]} {
		r := keys.New(secret)
		wantNames(t, r)
		wantUnknown(t, r, "", "alice", sum("d"))
		wantEnroll(t, r, "alice", api.OK)
		if s := sign(t, r, "alice", sum("d")); s != sealOf("", "alice", sum("d")) {
			t.Errorf("P18.1: the seal is %x", s)
		}
	}
}

// TestSecretWrittenOver: behind New, behind Enroll, behind Sign.
func TestSecretWrittenOver(t *testing.T) {
	for _, secret := range secrets() {
		given := append([]byte(secret), "behind"...)[:len(secret)]
		r := keys.New(given)
		over := func() {
			for i := range given {
				given[i] ^= 0x55
			}
		}
		over()
		wantEnroll(t, r, "alice", api.OK)
		over()
		over()
		over()
		wantEnroll(t, r, "bob", api.OK)
		for _, name := range texts("alice", "bob") {
			want := sealOf(secret, name, sum("d"))
			if s := sign(t, r, name, sum("d")); s != want {
				t.Errorf("P18.1: %q: the seal of %s is %x, want %x", secret, name, s, want)
			}
			over()
			wantVerify(t, r, name, sum("d"), want, true)
		}
	}
}

// TestEnrollAnyBytes: one by one, in any order; told in rising order of their bytes.
func TestEnrollAnyBytes(t *testing.T) {
	c := newChosen(1)
	for range 20 {
		r := keys.New([]byte("s"))
		var enrolled []string
		for _, i := range c.Perm(len(risingNames())) {
			name := risingNames()[i]
			wantHas(t, r, name, false)
			wantEnroll(t, r, name, api.OK)
			wantHas(t, r, name, true)
			wantEnroll(t, r, name, api.ErrEnrolled)
			wantHas(t, r, name, true)
			enrolled = append(enrolled, name)
			wantNames(t, r, slices.DeleteFunc(risingNames(), func(x string) bool { return !slices.Contains(enrolled, x) })...)
		}
		wantNames(t, r, risingNames()...)
	}
}

// TestEveryByte: as a name of its own, first and last of another.
func TestEveryByte(t *testing.T) {
	for _, around := range [][2]string{{"", ""}, {"a", ""}, {"", "a"}, {long(62), "z"}} {
		r := keys.New(nil)
		var want []string
		for b := range 256 {
			want = append(want, around[0]+string([]byte{byte(b)})+around[1])
			wantEnroll(t, r, want[b], api.OK)
		}
		wantNames(t, r, want...)
		wantEnroll(t, r, "other", api.ErrRing)
	}
}

// TestEveryLength: 1 to 64 bytes are a principal's.
func TestEveryLength(t *testing.T) {
	r := keys.New(nil)
	for n := range 200 {
		want := api.OK
		if n < 1 || n > 64 {
			want = api.ErrPrincipal
		}
		wantEnroll(t, r, long(n), want)
		wantHas(t, r, long(n), want == api.OK)
	}
	if l := r.Names(); len(l) != 64 || l[0] != "a" || l[63] != long(64) {
		t.Errorf("P18.2, P18.3: %q", l)
	}
}

// TestNoPrincipals: nothing is changed by them, on an empty ring, on one that has some, and on a full one.
func TestNoPrincipals(t *testing.T) {
	for _, names := range [][]string{nil, risingNames(), numberedNames(255), numberedNames(256)} {
		r := ringOf(t, "s", names...)
		want := r.Names()
		for _, name := range noPrincipals() {
			for range 2 {
				wantEnroll(t, r, name, api.ErrPrincipal)
				wantUnknown(t, r, "s", name, sum("d"))
			}
		}
		wantNames(t, r, want...)
	}
}

// TestHas: of what has a key, and of what is near to it.
func TestHas(t *testing.T) {
	names := risingNames()
	for half := range 2 {
		r := keys.New([]byte("s"))
		for i, name := range names {
			if i%2 == half {
				wantEnroll(t, r, name, api.OK)
			}
		}
		for i, name := range names {
			wantHas(t, r, name, i%2 == half)
		}
	}
	r := ringOf(t, "s", "alice")
	for _, name := range texts("", "Alice", "alic", "alicee", "alice ", " alice", "alice\x00", "\"alice\"", "ALICE", "s", "key") {
		wantHas(t, r, name, false)
	}
	wantHas(t, r, "alice", true)
}

// TestFull: the 257th, and all errors in their order; a full ring stays as it is, and goes on.
func TestFull(t *testing.T) {
	w := watch(t, "s")
	names := slices.Concat(risingNames(), numberedNames(256))
	for i, name := range names[:256] {
		wantEnroll(t, w.r, "", api.ErrPrincipal)
		w.do(call{kind: callEnroll, name: name})
		wantEnroll(t, w.r, names[i/2], api.ErrEnrolled)
		wantEnroll(t, w.r, long(65), api.ErrPrincipal)
	}
	for range 2 {
		for _, name := range names[256:] {
			wantEnroll(t, w.r, name, api.ErrRing)
			wantUnknown(t, w.r, "s", name, sum("d"))
		}
		for _, name := range names[:256] {
			wantEnroll(t, w.r, name, api.ErrEnrolled)
		}
		for _, name := range noPrincipals() {
			wantEnroll(t, w.r, name, api.ErrPrincipal)
		}
		w.look(names, []api.Digest{sum("d")})
	}
	for _, name := range names[:256] {
		w.do(call{kind: callSign, name: name, d: sum(name)})
	}
	w.look(names, []api.Digest{sum("d"), sum(names[0]), sum(names[255])})
}

// TestLastPlace: with 255 there is room for one, whatever was refused before.
func TestLastPlace(t *testing.T) {
	r := ringOf(t, "s", numberedNames(255)...)
	for range 300 {
		wantEnroll(t, r, "k7", api.ErrEnrolled)
		wantEnroll(t, r, "", api.ErrPrincipal)
		r.Sign("other", sum("d"))
		r.Has("other")
	}
	wantEnroll(t, r, "last", api.OK)
	wantEnroll(t, r, "other", api.ErrRing)
	wantEnroll(t, r, "last", api.ErrEnrolled)
	wantHas(t, r, "last", true)
	wantHas(t, r, "other", false)
	if len(r.Names()) != 256 {
		t.Errorf("P18.3: %d names", len(r.Names()))
	}
}

// TestEnrolledKeepsWhatItSigned: a second Enroll, which is refused, changes nothing.
func TestEnrolledKeepsWhatItSigned(t *testing.T) {
	w := watch(t, "s")
	for _, name := range texts("alice", "bob") {
		w.do(call{kind: callEnroll, name: name})
		w.do(call{kind: callSign, name: name, d: sum(name)})
	}
	for _, name := range texts("alice", "bob", "alice") {
		wantEnroll(t, w.r, name, api.ErrEnrolled)
		w.look(texts("alice", "bob", "carl"), []api.Digest{sum("alice"), sum("bob"), {}})
	}
}
