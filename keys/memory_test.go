package keys_test

import (
	"slices"
	"strconv"
	"testing"

	"hearsay/api"
	"hearsay/keys"
)

// P18.8, R3: what is handed in stays, its spare room too, and isn't kept; what is answered is new memory.

// fill: all of the list, its spare room too.
func fill[T any](l []T, mark T) {
	l = l[:cap(l)]
	for i := range l {
		l[i] = mark
	}
}

// wantApart: no two of the lists share memory, spare room too. All are written over.
func wantApart[T comparable](t *testing.T, what string, lists [][]T, mark func(int) T) {
	t.Helper()
	for i, l := range lists {
		fill(l, mark(i))
	}
	for i, l := range lists {
		if slices.ContainsFunc(l[:cap(l)], func(x T) bool { return x != mark(i) }) {
			t.Errorf("R3: two lists of %s share memory", what)
			return
		}
	}
}

// TestSecretStays: New and all later calls leave it, its spare room too; and what stands in its spare room isn't seen.
func TestSecretStays(t *testing.T) {
	for _, secret := range secrets() {
		given := append([]byte(secret), "what stands behind it"...)
		whole := slices.Clone(given)
		r := keys.New(given[:len(secret)])
		for _, name := range risingNames() {
			r.Enroll(name)
			r.Enroll(name)
			if s, _ := r.Sign(name, sum("d")); s != sealOf(secret, name, sum("d")) {
				t.Errorf("R3: %.20q: the seal of %q is %x", secret, name, s)
			}
			r.Verify(name, sum("d"), sum("x"))
			r.Signed(name)
		}
		r.Names()
		if !slices.Equal(given, whole) {
			t.Errorf("R3: the secret %.20q has changed", secret)
		}
	}
}

// TestOneSliceOfManySecrets: used again and again for rings that live on.
func TestOneSliceOfManySecrets(t *testing.T) {
	buffer := make([]byte, 0, 100)
	var rings []*keys.Ring
	for i := range 40 {
		buffer = append(buffer[:0], "secret "+strconv.Itoa(i)...)
		rings = append(rings, keys.New(buffer))
	}
	for i, r := range rings {
		wantEnroll(t, r, "alice", api.OK)
		if s := sign(t, r, "alice", sum("d")); s != sealOf("secret "+strconv.Itoa(i), "alice", sum("d")) {
			t.Errorf("P18.1: ring %d: the seal is %x", i, s)
		}
	}
}

// TestAnswersAreNewMemory: what is written into Names and Signed is never seen again.
func TestAnswersAreNewMemory(t *testing.T) {
	w := watch(t, "s")
	names, digests := risingNames(), risingDigests()
	var lists [][]string
	var sets [][]api.Digest
	for i, name := range names {
		w.do(call{kind: callEnroll, name: name})
		w.do(call{kind: callSign, name: name, d: digests[i%len(digests)]})
		w.do(call{kind: callSign, name: "a", d: digests[(i*5)%len(digests)]})
		for range 2 {
			lists = append(lists, w.r.Names())
			sets = append(sets, w.r.Signed(name), w.r.Signed("a"))
		}
		fill(w.r.Names(), "written over")
		fill(w.r.Signed(name), sum("written over"))
		fill(w.r.Signed("a"), sum("written over"))
		w.look(names, digests)
	}
	wantApart(t, "names", lists, func(i int) string { return strconv.Itoa(i) })
	wantApart(t, "digests", sets, func(i int) api.Digest { return sum(strconv.Itoa(i)) })
	w.look(names, digests)
}

// TestStillAsAnswered: what was told stays as it was, whatever is done to the ring afterwards.
func TestStillAsAnswered(t *testing.T) {
	r := keys.New([]byte("s"))
	var names, wantedNames [][]string
	var sets, wantedSets [][]api.Digest
	for i, name := range numberedNames(60) {
		r.Enroll(name)
		r.Sign("k0", sum(strconv.Itoa(i)))
		names, sets = append(names, r.Names()), append(sets, r.Signed("k0"))
		wantedNames = append(wantedNames, slices.Clone(names[i]))
		wantedSets = append(wantedSets, slices.Clone(sets[i]))
	}
	for i := range names {
		if len(names[i]) != i+1 || len(sets[i]) != i+1 || !slices.Equal(names[i], wantedNames[i]) || !slices.Equal(sets[i], wantedSets[i]) {
			t.Errorf("R3: what was told has changed: %d", i)
		}
	}
}

// TestNamesOfBytesWrittenOver: a name cut out of bytes that are written over afterwards.
func TestNamesOfBytesWrittenOver(t *testing.T) {
	r := keys.New([]byte("s"))
	bytes := []byte("alice")
	r.Enroll(string(bytes))
	r.Sign(string(bytes), sum("d"))
	copy(bytes, "xxxxx")
	wantNames(t, r, "alice")
	wantSigned(t, r, "alice", sum("d"))
	wantHas(t, r, "xxxxx", false)
}
