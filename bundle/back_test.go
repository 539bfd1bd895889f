package bundle_test

import (
	"testing"

	"hearsay/api"
	"hearsay/bundle"
)

// P21.3: there and back.

// wantBack: what is written is read as it was; what is read is written as these bytes.
func wantBack(t *testing.T, x held) string {
	t.Helper()
	b := written(t, x.goal, x.certs, x.p)
	goal, certs, p, err := bundle.Read([]byte(b))
	if got := (held{goal, unlisted(certs), p}); err != api.OK || !sameHeld(got, x) {
		t.Errorf("P21.3: %+v is read back as %+v, %d", x, got, err)
	}
	again, err := bundle.Write(goal, certs, p)
	if err != api.OK || string(again) != b {
		t.Errorf("P21.3: %.400x is written again as %.400x, %d", b, again, err)
	}
	return b
}

func TestThereAndBack(t *testing.T) {
	for _, x := range append(bundles(), exampleBundle()) {
		wantBack(t, x)
	}
	seen := map[string]held{}
	c := newChosen(213)
	for range 3000 {
		x := c.bundle()
		b := wantBack(t, x)
		if other, there := seen[b]; there && !sameHeld(other, x) {
			t.Errorf("P21.3: %+v and %+v have the same bytes", x, other)
		}
		seen[b] = x
	}
	if len(seen) < 2900 {
		t.Errorf("just %d bundles", len(seen))
	}
}

// TestBackAgain: whatever bytes are read, what was read is written as these.
func TestBackAgain(t *testing.T) {
	c := newChosen(214)
	read := 0
	for range 20000 {
		b := c.spoilt(plainWrite(c.bundle()))
		goal, certs, p, err := bundle.Read([]byte(b))
		if err != api.OK {
			continue
		}
		read++
		if again, err := bundle.Write(goal, certs, p); err != api.OK || string(again) != b {
			t.Errorf("P21.3: %x is written again as %x, %d", b, again, err)
		}
	}
	if read < 1500 {
		t.Errorf("just %d were read", read)
	}
}
