package wire_test

import (
	"testing"

	"hearsay/api"
	"hearsay/wire"
)

// P23.8: Next and Waiting. (Behind all other tests' calls wantRow asks for them too.)

func wantNext(t *testing.T, w *wire.Wire, want int) {
	t.Helper()
	if n := w.Next(); n != want {
		t.Errorf("P23.8: Next is %d, want %d", n, want)
	}
}

// TestEmptyRows: one to which nothing was sent, one from which all went, and one whose numbers are all given.
func TestEmptyRows(t *testing.T) {
	went := wireOf(t, "a", "b")
	wantTake(t, went, 2, "b")
	wantDrop(t, went, 1, api.OK)
	for _, w := range []*wire.Wire{wire.New(), went, fullWire(t)} {
		for range 2 {
			wantNext(t, w, 0)
			if l := w.Waiting(); len(l) != 0 {
				t.Errorf("P23.8: Waiting is %v", l)
			}
		}
	}
}

// TestBehindEveryCall: one after the other, those that are refused too.
func TestBehindEveryCall(t *testing.T) {
	w := wire.New()
	for _, x := range []struct {
		of   call
		next int
		row  []string
	}{
		{call{kind: callTake, n: 1}, 0, nil},
		{call{kind: callSend, text: "ab"}, 1, texts("1:ab")},
		{call{kind: callSend}, 1, texts("1:ab", "2:")},
		{call{kind: callCopy, n: 1}, 1, texts("1:ab", "2:", "3:ab")},
		{call{kind: callCopy, n: 4}, 1, texts("1:ab", "2:", "3:ab")},
		{call{kind: callSwap, n: 1, m: 2}, 2, texts("2:", "1:ab", "3:ab")},
		{call{kind: callSwap, n: 2, m: 4}, 2, texts("2:", "1:ab", "3:ab")},
		{call{kind: callSend, text: long(api.MaxMessage + 1)}, 2, texts("2:", "1:ab", "3:ab")},
		{call{kind: callFlip, n: 1, m: 1, k: 1}, 2, texts("2:", "1:ac", "3:ab")},
		{call{kind: callFlip, n: 2, m: 0, k: 1}, 2, texts("2:", "1:ac", "3:ab")},
		{call{kind: callCut, n: 3, m: 1}, 2, texts("2:", "1:ac", "3:a")},
		{call{kind: callCut, n: 3, m: 2}, 2, texts("2:", "1:ac", "3:a")},
		{call{kind: callLook, n: 3}, 2, texts("2:", "1:ac", "3:a")},
		{call{kind: callNext}, 2, texts("2:", "1:ac", "3:a")},
		{call{kind: callWaiting}, 2, texts("2:", "1:ac", "3:a")},
		{call{kind: callTake, n: 2}, 1, texts("1:ac", "3:a")},
		{call{kind: callDrop, n: 2}, 1, texts("1:ac", "3:a")},
		{call{kind: callSwap, n: 3, m: 1}, 3, texts("3:a", "1:ac")},
		{call{kind: callDrop, n: 1}, 3, texts("3:a")},
		{call{kind: callSend, text: "new"}, 3, texts("3:a", "4:new")},
		{call{kind: callTake, n: 3}, 4, texts("4:new")},
		{call{kind: callDrop, n: 4}, 0, nil},
		{call{kind: callCopy, n: 4}, 0, nil},
		{call{kind: callSend, text: "last"}, 5, texts("5:last")},
	} {
		x.of.of(w)
		wantNext(t, w, x.next)
		wantRow(t, w, x.row...)
	}
}

// TestNextIsTheFirst: not the least, and not the one that came first.
func TestNextIsTheFirst(t *testing.T) {
	w := wireOf(t, "a", "b", "c", "d")
	wantSwap(t, w, 1, 4, api.OK)
	wantNext(t, w, 4)
	wantDrop(t, w, 4, api.OK)
	wantNext(t, w, 2)
	wantSwap(t, w, 3, 2, api.OK)
	wantNext(t, w, 3)
	wantTake(t, w, 3, "c")
	wantTake(t, w, 2, "b")
	wantNext(t, w, 1)
}

// TestTakenInTurn: Next and Take empty the row in its order, as a reader would who takes them as they come.
func TestTakenInTurn(t *testing.T) {
	w := wireOf(t, contents()...)
	wantSwap(t, w, 1, len(contents()), api.OK)
	wantSwap(t, w, 2, 3, api.OK)
	want := rowOf(w)
	for _, x := range want {
		n := w.Next()
		if b, err := w.Take(n); err != api.OK || shown(n, string(b)) != x {
			t.Errorf("P23.8: in turn came %d with %.50q, %d; want %.50q", n, b, err, x)
		}
	}
	wantRow(t, w)
}

// TestALongRow: of all numbers that there are.
func TestALongRow(t *testing.T) {
	w := wire.New()
	for n := 1; n <= api.MaxMessages; n++ {
		wantSend(t, w, long(n%7), n)
	}
	all := w.Waiting()
	if len(all) != api.MaxMessages {
		t.Fatalf("P23.8: %d messages wait", len(all))
	}
	for i, m := range all {
		if m.N != i+1 || string(m.Bytes) != long((i+1)%7) {
			t.Fatalf("P23.8: at %d stands %d with %q", i, m.N, m.Bytes)
		}
	}
	for n := 1; n <= api.MaxMessages; n++ {
		wantNext(t, w, n)
		wantTake(t, w, n, long(n%7))
	}
	wantRow(t, w)
}
