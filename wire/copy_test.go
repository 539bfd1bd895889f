package wire_test

import (
	"slices"
	"testing"

	"hearsay/api"
)

// P23.4.

// TestCopy: the same bytes at the row's end, with the next number.
func TestCopy(t *testing.T) {
	for _, text := range append(contents(), long(api.MaxMessage)) {
		w := wireOf(t, "ahead", text, "behind")
		wantCopy(t, w, 2, 4)
		wantRow(t, w, "1:ahead", shown(2, text), "3:behind", shown(4, text))
		wantCopy(t, w, 4, 5)
		wantCopy(t, w, 1, 6)
		wantSend(t, w, "x", 7)
		wantRow(t, w, "1:ahead", shown(2, text), "3:behind", shown(4, text), shown(5, text), "6:ahead", "7:x")
	}
}

// TestCopyOfPresentBytes: not of those that were sent.
func TestCopyOfPresentBytes(t *testing.T) {
	w := wireOf(t, "abcdef")
	wantFlip(t, w, 1, 0, 32, api.OK)
	wantCopy(t, w, 1, 2)
	wantCut(t, w, 1, 3, api.OK)
	wantCopy(t, w, 1, 3)
	wantFlip(t, w, 1, 2, 32, api.OK)
	wantCopy(t, w, 1, 4)
	wantRow(t, w, "1:AbC", "2:Abcdef", "3:Abc", "4:AbC")
}

// TestCopiesLiveApart: what is done to one isn't done to the other, whichever it is.
func TestCopiesLiveApart(t *testing.T) {
	for _, c := range []struct {
		name        string
		done, other int
	}{{"the first", 1, 2}, {"the copy", 2, 1}} {
		w := wireOf(t, "abc")
		wantCopy(t, w, 1, 2)
		for at := range 3 {
			wantFlip(t, w, c.done, at, 32, api.OK)
			wantLook(t, w, c.other, "abc")
		}
		wantLook(t, w, c.done, "ABC")
		wantCut(t, w, c.done, 1, api.OK)
		wantLook(t, w, c.other, "abc")
		wantFlip(t, w, c.other, 2, 1, api.OK)
		wantLook(t, w, c.done, "A")
		wantTake(t, w, c.done, "A")
		wantRow(t, w, shown(c.other, "abb"))
		wantGone(t, w, c.done)
		if t.Failed() {
			t.Errorf("P23.4: so it is where %s is changed", c.name)
		}
	}
}

// TestCopyOfACopy: many of one message, each of the one before; each one is changed in its own way.
func TestCopyOfACopy(t *testing.T) {
	w := wireOf(t, "abcdefgh")
	want := texts("1:abcdefgh")
	for n := 2; n <= 9; n++ {
		wantCopy(t, w, n-1, n)
		want = append(want, shown(n, "abcdefgh"))
	}
	wantRow(t, w, want...)
	for n := 1; n <= 8; n++ {
		wantFlip(t, w, n, n-1, 32, api.OK)
		wantCut(t, w, n, n, api.OK)
	}
	wantRow(t, w, "1:A", "2:aB", "3:abC", "4:abcD", "5:abcdE", "6:abcdeF", "7:abcdefG", "8:abcdefgH", "9:abcdefgh")
}

// TestNoCopy: of what isn't there, wherever the row is.
func TestNoCopy(t *testing.T) {
	w := wireOf(t, "a", "b")
	wantDrop(t, w, 1, api.OK)
	for _, n := range append(farNumbers(), 1, 3, 4) {
		wantNotCopied(t, w, n, api.ErrNoMessage)
	}
	wantRow(t, w, "2:b")
	wantCopy(t, w, 2, 3)
}

// TestNoCopyOnAFullWire: ErrNoMessage comes ahead of ErrWireFull.
func TestNoCopyOnAFullWire(t *testing.T) {
	w := fullWire(t, 1, 7, 4096)
	for range 2 {
		for _, n := range ints(1, 7, 4096) {
			wantNotCopied(t, w, n, api.ErrWireFull)
		}
		for _, n := range slices.DeleteFunc(append(farNumbers(), 2, 6, 8, 4095, 4097), func(n int) bool { return n == 4096 }) {
			wantNotCopied(t, w, n, api.ErrNoMessage)
		}
		wantRow(t, w, "1:", "7:", "4096:")
	}
	wantDrop(t, w, 7, api.OK)
	wantNotCopied(t, w, 7, api.ErrNoMessage)
	wantNotCopied(t, w, 1, api.ErrWireFull)
	wantTake(t, w, 1, "")
	wantTake(t, w, 4096, "")
	wantNotCopied(t, w, 4096, api.ErrNoMessage)
	wantRow(t, w)
}
