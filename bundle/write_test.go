package bundle_test

import (
	"slices"
	"testing"

	"hearsay/api"
)

// P21.1: Write.

// TestWritten: the table's bytes, whatever the certificates are, and whether or not the derivation holds.
func TestWritten(t *testing.T) {
	for _, x := range bundles() {
		wantWritten(t, x.goal, x.certs, x.p, plainWrite(x))
	}
	for _, goal := range goals() {
		wantWritten(t, goal, texts("x"), api.Proof{}, plainWrite(held{goal, texts("x"), api.Proof{}}))
	}
	c := newChosen(211)
	for range 2000 {
		x := c.bundle()
		wantWritten(t, x.goal, x.certs, x.p, plainWrite(x))
	}
}

// TestCertificatesInTheirOrder: they are neither sorted nor told once.
func TestCertificatesInTheirOrder(t *testing.T) {
	const goal = "HSB1" + "\x00\x00\x00\x05\x00\x02ok\x00"
	const noSteps = "\x00\x00\x00\x08\x00\x00\x00\x00\x00\x00\x00\x00"
	wantWritten(t, atom("ok"), texts("b", "a", "", "b"), api.Proof{}, goal+"\x00\x00\x00\x04"+"\x00\x00\x00\x01b"+"\x00\x00\x00\x01a"+"\x00\x00\x00\x00"+"\x00\x00\x00\x01b"+noSteps)
	wantWritten(t, atom("ok"), texts(""), api.Proof{}, goal+"\x00\x00\x00\x01\x00\x00\x00\x00"+noSteps)
	wantWritten(t, atom("ok"), texts(long(0x10203)), api.Proof{}, goal+"\x00\x00\x00\x01\x00\x01\x02\x03"+long(0x10203)+noSteps)
	wantWritten(t, atom("ok"), nTimes(0x10203, ""), api.Proof{}, goal+"\x00\x01\x02\x03"+string(make([]byte, 4*0x10203))+noSteps)
}

// TestGoalsErrors: ahead of the derivation's, and of the length's.
func TestGoalsErrors(t *testing.T) {
	tooLong := [][]byte{make([]byte, api.MaxBundle)}
	for _, w := range wrongAtoms() {
		wantNotWritten(t, w.a, nil, api.Proof{}, w.err)
		wantNotWritten(t, w.a, tooLong, api.Proof{}, w.err)
		for _, p := range wrongProofs() {
			wantNotWritten(t, w.a, nil, p.p, w.err)
		}
		wantNotWritten(t, w.a, tooLong, wrongProofs()[0].p, w.err)
	}
}

// TestDerivationsErrors: a rule's ahead of a step's, and both ahead of the length's.
func TestDerivationsErrors(t *testing.T) {
	tooLong := [][]byte{make([]byte, api.MaxBundle)}
	for _, w := range wrongProofs() {
		for _, goal := range goals()[:4] {
			wantNotWritten(t, goal, nil, w.p, w.err)
			wantNotWritten(t, goal, lists(texts("", "x")), w.p, w.err)
		}
		wantNotWritten(t, atom("ok"), tooLong, w.p, w.err)
	}
}

// wantEdge: with certificates of just so many bytes that the bundle has MaxBundle of them, it is written and read back; with one byte more it isn't.
func wantEdge(t *testing.T, x held) {
	t.Helper()
	left := api.MaxBundle - len(plainWrite(x)) - 4
	for _, place := range []int{0, len(x.certs)} {
		full := x
		full.certs = slices.Insert(slices.Clone(x.certs), place, long(left))
		b := written(t, full.goal, full.certs, full.p)
		if len(b) != 1048576 || b != plainWrite(full) {
			t.Errorf("P21.1: %d bytes", len(b))
		}
		wantRead(t, b, full)
		full.certs[place] = long(left - 1)
		wantWritten(t, full.goal, full.certs, full.p, plainWrite(full))
		for _, more := range []int{1, 2, 1000} {
			full.certs[place] = long(left + more)
			wantNotWritten(t, full.goal, lists(full.certs), full.p, api.ErrBundleLong)
		}
	}
}

func TestGreatestBundles(t *testing.T) {
	for _, x := range bundles()[:12] {
		wantEdge(t, x)
	}
	wantEdge(t, exampleBundle())
}

// TestManyCertificates: as many as there is room for, of no bytes each: four bytes of each one count.
func TestManyCertificates(t *testing.T) {
	x := held{goal: atom("p", txt("a"), txt("bc"), num(1))} // 20 bytes; 24 are the rest
	most := (api.MaxBundle - len(plainWrite(x))) / 4
	x.certs = nTimes(most, "")
	b := written(t, x.goal, x.certs, x.p)
	if len(b) != 1048576 || most != 262133 {
		t.Errorf("P21.1: %d certificates are %d bytes", most, len(b))
	}
	wantRead(t, b, x)
	wantNotWritten(t, x.goal, lists(append(x.certs, "")), x.p, api.ErrBundleLong)
}

// TestLongDerivations: as many steps, and as many rules, as there is room for.
func TestLongDerivations(t *testing.T) {
	goal := atom("p", txt("ab"))
	steps := derivation(nil, nTimes(65534, step(0, nil))...) // 16 bytes each, and 32 for the rest
	b := written(t, goal, nil, steps)
	if len(b) != 1048576 {
		t.Errorf("P21.1: %d bytes", len(b))
	}
	wantRead(t, b, held{goal, nil, steps})
	wantNotWritten(t, atom("p", txt("abc")), nil, steps, api.ErrBundleLong)
	wantNotWritten(t, goal, lists(texts("")), steps, api.ErrBundleLong)
	wantNotWritten(t, goal, nil, derivation(nil, append(steps.Steps, step(0, nil))...), api.ErrBundleLong)
	ok := rule(atom("pq", txt("abc"), txt("de"))) // 16 bytes
	many := derivation(nTimes(65534, ok))
	b = written(t, goal, nil, many)
	if len(b) != 1048576 {
		t.Errorf("P21.1: %d bytes", len(b))
	}
	wantRead(t, b, held{goal, nil, many})
	wantNotWritten(t, goal, nil, derivation(append(many.Rules, ok)), api.ErrBundleLong)
}

// TestFarTooLong: such that a number of 32 bits would come to a small one again.
func TestFarTooLong(t *testing.T) {
	big := make([]byte, 1<<20-4) // 2^20 as a part
	for _, n := range []int{1, 2, 2047, 2048, 4095, 4096, 4097, 8192, 1 << 20} {
		wantNotWritten(t, atom("ok"), nTimes(n, big), api.Proof{}, api.ErrBundleLong)
	}
}
