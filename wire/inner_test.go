package wire

import (
	"slices"
	"testing"

	"hearsay/api"
)

// What no call shows: that the row is changed in its place, and that nothing of what went is kept.

// rowOfFive: a wire with five messages.
func rowOfFive(t *testing.T) *Wire {
	t.Helper()
	w := New()
	for n := 1; n <= 5; n++ {
		if got, err := w.Send([]byte{byte(n), 1, 2}); got != n || err != api.OK {
			t.Fatalf("P23.2: Send: %d, %d", got, err)
		}
	}
	return w
}

// wantWiped: the row's spare room holds no message.
func wantWiped(t *testing.T, w *Wire, what string) {
	t.Helper()
	spare := w.row[len(w.row):cap(w.row)]
	if slices.ContainsFunc(spare, func(m api.Message) bool { return m.N != 0 || m.Bytes != nil }) {
		t.Errorf("Ways: behind %s the row's spare room holds %v", what, spare)
	}
}

// TestMovedInPlace: what stands behind a message that goes is moved up in the same memory, and what is left over is wiped.
func TestMovedInPlace(t *testing.T) {
	for n := 1; n <= 5; n++ {
		w := rowOfFive(t)
		first, room := &w.row[0], cap(w.row)
		if n%2 == 0 {
			w.Drop(n)
		} else {
			w.Take(n)
		}
		if &w.row[0] != first || cap(w.row) != room || len(w.row) != 4 {
			t.Errorf("Ways: the row is another one, of %d messages, when %d went", len(w.row), n)
		}
		wantWiped(t, w, "one message")
	}
}

func TestAllWiped(t *testing.T) {
	for _, order := range [][]int{{1, 2, 3, 4, 5}, {5, 4, 3, 2, 1}, {3, 1, 5, 2, 4}} {
		w := rowOfFive(t)
		for _, n := range order {
			w.Drop(n)
			wantWiped(t, w, "some messages")
		}
		w.Send([]byte("new"))
		wantWiped(t, w, "a new message")
	}
}

// TestBytesChangedInPlace: of a message that is flipped.
func TestBytesChangedInPlace(t *testing.T) {
	w := rowOfFive(t)
	first := &w.row[2].Bytes[0]
	w.Flip(3, 0, 1)
	w.Swap(3, 5)
	if &w.row[4].Bytes[0] != first || *first != 2 {
		t.Errorf("Ways: the bytes of message 3 are %x, elsewhere", w.row[4].Bytes)
	}
}

// TestNothingKept: no room behind a message's bytes, where those that were cut off would still stand.
func TestNothingKept(t *testing.T) {
	w := rowOfFive(t)
	for length := 3; length >= 0; length-- {
		w.Cut(2, length)
		if b := w.row[1].Bytes; len(b) != length || slices.ContainsFunc(b[length:cap(b)], func(x byte) bool { return x != 0 }) {
			t.Errorf("R3: of message 2, cut to %d bytes, these are kept: %x", length, b[:cap(b)])
		}
	}
}

// TestTheZeroWire: what can be made without New is an empty wire too.
func TestTheZeroWire(t *testing.T) {
	var w Wire
	if w.Next() != 0 || len(w.Waiting()) != 0 || w.Drop(0) != api.ErrNoMessage {
		t.Error("R1: the zero wire isn't empty")
	}
	if n, err := w.Send(nil); n != 1 || err != api.OK {
		t.Errorf("R1: the first number of the zero wire is %d, %d", n, err)
	}
}
