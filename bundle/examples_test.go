package bundle_test

import (
	"slices"
	"testing"

	"hearsay/api"
	"hearsay/cert"
	"hearsay/keys"
)

// The examples of chapter 21, one by one.

// stage: the examples' ring, the certificate C and the policy P; and a certificate of bob's.
type stage struct {
	ring       *keys.Ring
	c, d       string
	p          []api.Clause
	may        api.Atom
	derivation api.Proof
}

func examples(t *testing.T) stage {
	t.Helper()
	r := ringOf(t, "s", "alice", "bob")
	x := exampleBundle()
	return stage{r, said(t, r, "alice", "good(carl)."), said(t, r, "bob", "good(dan)."), programOf(t, "may(X) :- alice says good(X)."), x.goal, x.p}
}

func TestExample1(t *testing.T) {
	s := examples(t)
	b := made(t, s.ring, s.p, texts(s.c), s.may, 9)
	wantRead(t, b, held{s.may, texts(s.c), s.derivation})
	wantShown(t, s.ring, s.p, b, s.may)
	wantNotShown(t, s.ring, nil, b, api.ErrForeign)
	wantNotShown(t, ringOf(t, "s", "alice", "bob"), s.p, b, api.ErrSeal)
	wantNotShown(t, ringOf(t, "t"), s.p, b, api.ErrSeal)
	for i := range s.c {
		spoilt := turned(s.c, i, 1)
		_, err := cert.Open(s.ring, []byte(spoilt))
		if !slices.Contains([]api.Errno{api.ErrMagic, api.ErrShort, api.ErrCode, api.ErrTail, api.ErrSeal}, err) {
			t.Errorf("P21.5: Open of the certificate with byte %d changed: %d", i, err)
		}
		wantNotShown(t, s.ring, s.p, written(t, s.may, texts(spoilt), s.derivation), err)
	}
}

func TestExample2(t *testing.T) {
	s := examples(t)
	b := made(t, s.ring, s.p, texts(s.c), s.may, 9)
	wantMade(t, s.ring, s.p, texts(s.c, s.d), s.may, 9, b)
	wantMade(t, s.ring, s.p, texts(s.d, s.c), s.may, 9, b)
	wantNotMade(t, s.ring, s.p, texts(s.c), goalOf(t, "may(dan)"), 9, api.ErrNoFact)
	wantNotMade(t, s.ring, s.p, texts(s.c), goalOf(t, "may(X)"), 9, api.ErrFact)
	wantNotMade(t, s.ring, s.p, texts(s.c), s.may, 2, api.ErrFuel)
	wantMade(t, s.ring, s.p, texts(s.c), s.may, 3, b)
	for x, want := range map[string]api.Errno{"": api.ErrMagic, "HSC2": api.ErrMagic, "HSC1": api.ErrShort, "HSC1\x00": api.ErrCode, s.c + "x": api.ErrTail, turned(s.c, len(s.c)-1, 1): api.ErrSeal} {
		wantNotMade(t, s.ring, s.p, texts(s.c, x), s.may, 9, want)
	}
}

func TestExample3(t *testing.T) {
	r := ringOf(t, "s", "alice", "bob")
	p := programOf(t, "p(a).")
	b := made(t, r, p, nil, goalOf(t, "p(a)"), 2)
	wantRead(t, b, held{goalOf(t, "p(a)"), nil, derivation(p, step(0, nil))})
	wantShown(t, r, p, b, goalOf(t, "p(a)"))
	wantNotMade(t, r, p, nil, goalOf(t, "p(a)"), 1, api.ErrFuel)
}

func TestExample4(t *testing.T) {
	b := unhex("48 53 42 31 | 00 00 00 07 00 01 70 01 02 01 61 | 00 00 00 00 | 00 00 00 08 00 00 00 00 00 00 00 00")
	goal := goalOf(t, "p(a)")
	wantWritten(t, goal, nil, api.Proof{}, b)
	wantRead(t, b, held{goal: goal})
	wantNotShown(t, ringOf(t, "s", "alice", "bob"), nil, b, api.ErrSteps)
	wantNotShown(t, ringOf(t, "s", "alice", "bob"), programOf(t, "p(a)."), b, api.ErrSteps)
}

func TestExample5(t *testing.T) {
	s := examples(t)
	b := made(t, s.ring, s.p, texts(s.c), s.may, 9)
	wantNotRead(t, "", api.ErrBundle)
	wantNotRead(t, "HSB2", api.ErrBundle)
	wantNotRead(t, "HSB2"+b[4:], api.ErrBundle)
	for n := range b {
		wantNotRead(t, b[:n], api.ErrBundle)
	}
	for x := range 256 {
		wantNotRead(t, b+string([]byte{byte(x)}), api.ErrBundle)
	}
	wantRead(t, b, held{s.may, texts(s.c), s.derivation})
}
