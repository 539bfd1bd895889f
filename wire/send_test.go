package wire_test

import (
	"slices"
	"testing"

	"hearsay/api"
	"hearsay/wire"
)

// P23.2.

// TestSend: each message stands at the row's end, with the next number.
func TestSend(t *testing.T) {
	w := wire.New()
	var want []string
	for i, text := range slices.Concat(contents(), contents()) {
		wantSend(t, w, text, i+1)
		want = append(want, shown(i+1, text))
		wantRow(t, w, want...)
	}
}

// TestSendNoBytes: none, and no list at all.
func TestSendNoBytes(t *testing.T) {
	w := wire.New()
	for i, b := range [][]byte{nil, {}, make([]byte, 0, 10), []byte("spare")[:0]} {
		if n, err := w.Send(b); n != i+1 || err != api.OK {
			t.Errorf("P23.2: Send of no bytes: %d, %d", n, err)
		}
	}
	wantRow(t, w, "1:", "2:", "3:", "4:")
}

// TestSendTheMost: MaxMessage bytes are sent, one more isn't, and many more neither.
func TestSendTheMost(t *testing.T) {
	w := wire.New()
	most := long(api.MaxMessage-1) + "z"
	wantSend(t, w, most[1:], 1)
	wantSend(t, w, most, 2)
	for _, more := range ints(1, 2, 1000, api.MaxMessage, 4*api.MaxMessage) {
		wantNotSent(t, w, long(api.MaxMessage+more), api.ErrMessageLong)
	}
	wantRow(t, w, shown(1, most[1:]), shown(2, most))
	wantSend(t, w, "next", 3)
	wantRow(t, w, shown(1, most[1:]), shown(2, most), "3:next")
}

// TestLengthNotRoom: the length counts, not the room behind it.
func TestLengthNotRoom(t *testing.T) {
	w := wire.New()
	if n, err := w.Send(make([]byte, 2*api.MaxMessage)[:1]); n != 1 || err != api.OK {
		t.Errorf("P23.2: Send: %d, %d", n, err)
	}
	wantRow(t, w, "1:\x00")
}

// TestNumbersAreNeverGivenAgain: whatever went, the first or the last, one or all.
func TestNumbersAreNeverGivenAgain(t *testing.T) {
	w := wire.New()
	for n := 1; n <= 60; n += 3 {
		wantSend(t, w, "a", n)
		wantSend(t, w, "b", n+1)
		wantCopy(t, w, n, n+2)
		wantDrop(t, w, n+2, api.OK)
		wantTake(t, w, n+n%2, []string{"a", "b"}[n%2])
		if n%4 == 0 {
			dropAll(t, w)
		}
	}
}

// TestRefusalsUseNoNumber: of Send and of Copy, in any order.
func TestRefusalsUseNoNumber(t *testing.T) {
	w := wire.New()
	for n := 1; n < 20; n += 2 {
		wantNotSent(t, w, long(api.MaxMessage+1), api.ErrMessageLong)
		wantNotCopied(t, w, n, api.ErrNoMessage)
		wantNotCopied(t, w, 0, api.ErrNoMessage)
		wantSend(t, w, "a", n)
		wantNotCopied(t, w, n+1, api.ErrNoMessage)
		wantNotSent(t, w, long(api.MaxMessage+1), api.ErrMessageLong)
		wantCopy(t, w, n, n+1)
	}
}

// TestFullWires: 4096 numbers are given and no more, whether messages went or not, all or none of them; which of them Copy gave is nothing to it.
func TestFullWires(t *testing.T) {
	all := slices.Collect(func(yield func(int) bool) {
		for n := 1; n <= 4096 && yield(n); n++ {
		}
	})
	for _, there := range [][]int{all, nil, {1}, {4096}, {1, 2, 4096}, all[1:], all[:4095]} {
		w := fullWire(t, there...)
		before := rowOf(w)
		if len(before) != len(there) {
			t.Errorf("P23.2: %d messages are there, want %d", len(before), len(there))
		}
		for _, text := range contents() {
			wantNotSent(t, w, text, api.ErrWireFull)
		}
		wantNotSent(t, w, long(api.MaxMessage), api.ErrWireFull)
		wantNotSent(t, w, long(api.MaxMessage+1), api.ErrMessageLong)
		if got := rowOf(w); !slices.Equal(got, before) {
			t.Errorf("P23.10: a refused Send has changed the row of %d messages", len(there))
		}
		dropAll(t, w)
		wantNotSent(t, w, "", api.ErrWireFull)
	}
}

// TestFilledByCopies: they use up numbers as Send does.
func TestFilledByCopies(t *testing.T) {
	w := wireOf(t, "a")
	for n := 2; n <= 4096; n++ {
		wantCopy(t, w, n-1, n)
		wantDrop(t, w, n-1, api.OK)
	}
	wantNotSent(t, w, "q", api.ErrWireFull)
	wantNotCopied(t, w, 4096, api.ErrWireFull)
	wantRow(t, w, "4096:a")
}

// TestTheLastNumber: is given by whichever comes, and refusals ahead of it don't take it.
func TestTheLastNumber(t *testing.T) {
	for _, byCopy := range []bool{false, true} {
		w := wireOf(t, "a")
		for n := 2; n <= 4095; n++ {
			wantSend(t, w, "", n)
			wantDrop(t, w, n, api.OK)
		}
		wantNotSent(t, w, long(api.MaxMessage+1), api.ErrMessageLong)
		wantNotCopied(t, w, 2, api.ErrNoMessage)
		wantNotCopied(t, w, 4096, api.ErrNoMessage)
		if byCopy {
			wantCopy(t, w, 1, 4096)
		} else {
			wantSend(t, w, "a", 4096)
		}
		wantRow(t, w, "1:a", "4096:a")
		wantNotSent(t, w, "", api.ErrWireFull)
		wantNotCopied(t, w, 1, api.ErrWireFull)
		wantNotCopied(t, w, 4096, api.ErrWireFull)
		wantNotCopied(t, w, 4097, api.ErrNoMessage)
	}
}

// TestAFullWireGoesOn: all calls that give no number answer as they did.
func TestAFullWireGoesOn(t *testing.T) {
	w := wireOf(t, "one", "two", "three")
	for n := 4; n <= 4096; n++ {
		wantSend(t, w, "", n)
		wantDrop(t, w, n, api.OK)
	}
	wantNotSent(t, w, "q", api.ErrWireFull)
	wantSwap(t, w, 1, 3, api.OK)
	wantFlip(t, w, 2, 0, 32, api.OK)
	wantCut(t, w, 3, 2, api.OK)
	wantRow(t, w, "3:th", "2:Two", "1:one")
	wantTake(t, w, 2, "Two")
	wantDrop(t, w, 3, api.OK)
	wantRow(t, w, "1:one")
	wantGone(t, w, 2)
	wantNotSent(t, w, "q", api.ErrWireFull)
}
