package wire_test

import (
	"testing"

	"hearsay/api"
	"hearsay/wire"
)

// P23.1.

func TestNew(t *testing.T) {
	w := wire.New()
	wantRow(t, w)
	wantGone(t, w, 1)
	for _, n := range farNumbers() {
		wantGone(t, w, n)
	}
	wantSend(t, w, "a", 1)
	wantRow(t, w, "1:a")
}

// TestFirstNumber: 1, whatever the first message is.
func TestFirstNumber(t *testing.T) {
	for _, text := range append(contents(), long(api.MaxMessage)) {
		w := wire.New()
		wantSend(t, w, text, 1)
		wantRow(t, w, shown(1, text))
	}
}

// TestTwoWires: what is done to one isn't seen on the other, though their numbers are the same.
func TestTwoWires(t *testing.T) {
	a, b := wireOf(t, "one", "two", "three"), wireOf(t, "one", "two")
	untouched := wire.New()
	wantFlip(t, a, 1, 0, 1, api.OK)
	wantCut(t, a, 2, 1, api.OK)
	wantRow(t, b, "1:one", "2:two")
	wantTake(t, a, 1, "nne")
	wantDrop(t, a, 3, api.OK)
	wantRow(t, b, "1:one", "2:two")
	wantSwap(t, b, 1, 2, api.OK)
	wantCopy(t, b, 2, 3)
	wantRow(t, a, "2:t")
	wantSend(t, a, "four", 4)
	wantSend(t, b, "four", 4)
	wantRow(t, a, "2:t", "4:four")
	wantRow(t, b, "2:two", "1:one", "3:two", "4:four")
	wantRow(t, untouched)
	wantSend(t, untouched, "first", 1)
}

// TestTwoWiresHandingOver: what one answers is sent on by the other, and lives apart there.
func TestTwoWiresHandingOver(t *testing.T) {
	a, b := wireOf(t, "here", "there"), wire.New()
	for _, m := range a.Waiting() {
		if _, err := b.Send(m.Bytes); err != api.OK {
			t.Fatalf("P23.2: Send: %d", err)
		}
	}
	taken, _ := a.Take(1)
	b.Send(taken)
	wantFlip(t, b, 2, 0, 32, api.OK)
	wantFlip(t, b, 3, 0, 32, api.OK)
	wantRow(t, a, "2:there")
	wantRow(t, b, "1:here", "2:There", "3:Here")
}

// TestAFullWireAndAnother: that one has no numbers left is nothing to the other.
func TestAFullWireAndAnother(t *testing.T) {
	full, w := fullWire(t, 1), wireOf(t, "a")
	wantNotSent(t, full, "q", api.ErrWireFull)
	wantSend(t, w, "b", 2)
	wantCopy(t, w, 1, 3)
	wantSend(t, wire.New(), "c", 1)
}
