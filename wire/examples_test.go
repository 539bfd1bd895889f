package wire_test

import (
	"testing"

	"hearsay/api"
	"hearsay/wire"
)

// TestExamples: the chapter's, one by one: one wire, one call behind the other.
func TestExamples(t *testing.T) {
	w := wire.New()
	exampleOfNone(t, w)
	exampleOfSending(t, w)
	exampleOfSwapping(t, w)
	exampleOfFlipping(t, w)
	exampleOfCopyingAndCutting(t, w)
	exampleOfTaking(t, w)
	exampleOfLength(t, w)
	exampleOfAFullWire(t, w)
}

func exampleOfNone(t *testing.T, w *wire.Wire) {
	wantRow(t, w)
	if b, err := w.Take(0); len(b) != 0 || err != api.ErrNoMessage {
		t.Errorf("example 1: Take(0): %q, %d", b, err)
	}
	if b, err := w.Take(1); len(b) != 0 || err != api.ErrNoMessage {
		t.Errorf("example 1: Take(1): %q, %d", b, err)
	}
	wantDrop(t, w, -1, api.ErrNoMessage)
}

func exampleOfSending(t *testing.T, w *wire.Wire) {
	wantSend(t, w, "ab", 1)
	wantSend(t, w, "", 2)
	wantSend(t, w, "xyz", 3)
	if n := w.Next(); n != 1 {
		t.Errorf("example 2: Next is %d", n)
	}
	wantRow(t, w, "1:ab", "2:", "3:xyz")
}

func exampleOfSwapping(t *testing.T, w *wire.Wire) {
	wantSwap(t, w, 1, 3, api.OK)
	wantRow(t, w, "3:xyz", "2:", "1:ab")
	if n := w.Next(); n != 3 {
		t.Errorf("example 3: Next is %d", n)
	}
	wantSwap(t, w, 2, 2, api.OK)
	wantSwap(t, w, 1, 4, api.ErrNoMessage)
	wantRow(t, w, "3:xyz", "2:", "1:ab")
}

func exampleOfFlipping(t *testing.T, w *wire.Wire) {
	wantFlip(t, w, 1, 1, 1, api.OK)
	wantLook(t, w, 1, "ac")
	wantFlip(t, w, 1, 2, 1, api.ErrPlace)
	wantFlip(t, w, 1, -1, 1, api.ErrPlace)
	wantFlip(t, w, 2, 0, 1, api.ErrPlace)
	wantFlip(t, w, 1, 0, 256, api.OK)
	wantLook(t, w, 1, "ac")
	wantFlip(t, w, 1, 0, -1, api.OK)
	wantLook(t, w, 1, "\x9ec")
	wantFlip(t, w, 1, 0, 255, api.OK)
	wantRow(t, w, "3:xyz", "2:", "1:ac")
}

func exampleOfCopyingAndCutting(t *testing.T, w *wire.Wire) {
	wantCopy(t, w, 3, 4)
	wantRow(t, w, "3:xyz", "2:", "1:ac", "4:xyz")
	wantCut(t, w, 3, 1, api.OK)
	wantLook(t, w, 3, "x")
	wantLook(t, w, 4, "xyz")
	wantCut(t, w, 3, 2, api.ErrPlace)
	wantCut(t, w, 3, -1, api.ErrPlace)
	wantCut(t, w, 2, 0, api.OK)
	wantRow(t, w, "3:x", "2:", "1:ac", "4:xyz")
}

func exampleOfTaking(t *testing.T, w *wire.Wire) {
	wantTake(t, w, 2, "")
	if b, err := w.Take(2); len(b) != 0 || err != api.ErrNoMessage {
		t.Errorf("example 6: Take(2) again: %q, %d", b, err)
	}
	wantNotCopied(t, w, 2, api.ErrNoMessage)
	wantDrop(t, w, 3, api.OK)
	wantRow(t, w, "1:ac", "4:xyz")
	wantLook(t, w, 4, "xyz")
	wantLook(t, w, 4, "xyz")
}

func exampleOfLength(t *testing.T, w *wire.Wire) {
	wantSend(t, w, long(api.MaxMessage), 5)
	wantNotSent(t, w, long(api.MaxMessage+1), api.ErrMessageLong)
	wantSend(t, w, "q", 6)
	wantRow(t, w, "1:ac", "4:xyz", "5:"+long(api.MaxMessage), "6:q")
}

func exampleOfAFullWire(t *testing.T, w *wire.Wire) {
	for n := 7; n <= 4096; n++ {
		wantSend(t, w, "", n)
	}
	for range 2 {
		wantNotSent(t, w, "q", api.ErrWireFull)
		wantNotSent(t, w, long(api.MaxMessage+1), api.ErrMessageLong)
		wantNotCopied(t, w, 1, api.ErrWireFull)
		wantNotCopied(t, w, 3, api.ErrNoMessage)
	}
	dropAll(t, w)
	wantNotSent(t, w, "q", api.ErrWireFull)
	wantNotSent(t, w, long(api.MaxMessage+1), api.ErrMessageLong)
	wantNotCopied(t, w, 1, api.ErrNoMessage)
	wantRow(t, w)
}
