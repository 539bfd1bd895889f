package wire_test

import (
	"testing"

	"hearsay/api"
	"hearsay/wire"
)

// P23.5.

// TestSwap: any two of a row of five, in either order of the arguments: they change places, numbers and bytes together; the others stay.
func TestSwap(t *testing.T) {
	sent := texts("one", "", "three", "four", "\xff")
	for n := 1; n <= 5; n++ {
		for m := 1; m <= 5; m++ {
			w := wireOf(t, sent...)
			want := rowOf(w)
			want[n-1], want[m-1] = want[m-1], want[n-1]
			wantSwap(t, w, n, m, api.OK)
			wantRow(t, w, want...)
		}
	}
}

// TestSwapByNumbers: in a row whose numbers aren't the places.
func TestSwapByNumbers(t *testing.T) {
	w := wireOf(t, "a", "b", "c", "d", "e")
	wantDrop(t, w, 2, api.OK)
	wantSwap(t, w, 1, 5, api.OK)
	wantRow(t, w, "5:e", "3:c", "4:d", "1:a")
	wantSwap(t, w, 1, 3, api.OK)
	wantRow(t, w, "5:e", "1:a", "4:d", "3:c")
	wantSwap(t, w, 4, 5, api.OK)
	wantRow(t, w, "4:d", "1:a", "5:e", "3:c")
	wantSend(t, w, "f", 6)
	wantSwap(t, w, 6, 4, api.OK)
	wantRow(t, w, "6:f", "1:a", "5:e", "3:c", "4:d")
}

// TestSwapWithItself: nothing changes; of one that isn't there it is refused.
func TestSwapWithItself(t *testing.T) {
	w := wireOf(t, "a", "b", "c")
	for n := 1; n <= 3; n++ {
		wantSwap(t, w, n, n, api.OK)
		wantRow(t, w, "1:a", "2:b", "3:c")
	}
	for _, n := range append(farNumbers(), 4) {
		wantSwap(t, w, n, n, api.ErrNoMessage)
	}
	wantDrop(t, w, 2, api.OK)
	wantSwap(t, w, 2, 2, api.ErrNoMessage)
	wantRow(t, w, "1:a", "3:c")
}

// TestNoSwap: the first, the second, or both aren't there.
func TestNoSwap(t *testing.T) {
	w := wireOf(t, "a", "b", "c")
	wantDrop(t, w, 3, api.OK)
	gone := append(farNumbers(), 3, 4, 5)
	for _, n := range gone {
		for _, m := range ints(1, 2) {
			wantSwap(t, w, n, m, api.ErrNoMessage)
			wantSwap(t, w, m, n, api.ErrNoMessage)
		}
		for _, m := range gone {
			wantSwap(t, w, n, m, api.ErrNoMessage)
		}
	}
	wantRow(t, w, "1:a", "2:b")
	wantSwap(t, wire.New(), 1, 1, api.ErrNoMessage)
	wantSwap(t, wireOf(t, "a"), 1, 2, api.ErrNoMessage)
}

// TestTurnedRows: every order of four can be come by.
func TestTurnedRows(t *testing.T) {
	sent := texts("one", "two", "three", "four")
	for _, order := range orders(ints(1, 2, 3, 4)) {
		w := wireOf(t, sent...)
		var want []string
		for i, n := range order {
			var row []int
			for _, m := range w.Waiting() {
				row = append(row, m.N)
			}
			wantSwap(t, w, row[i], n, api.OK)
			want = append(want, shown(n, sent[n-1]))
		}
		wantRow(t, w, want...)
		if n := w.Next(); n != order[0] {
			t.Errorf("P23.8: Next is %d, want %d", n, order[0])
		}
	}
}

// TestSwappedStayTheirs: what is done to a message later is done to the one of its number.
func TestSwappedStayTheirs(t *testing.T) {
	w := wireOf(t, "aaa", "bbb")
	wantSwap(t, w, 1, 2, api.OK)
	wantFlip(t, w, 1, 0, 32, api.OK)
	wantCut(t, w, 2, 2, api.OK)
	wantCopy(t, w, 1, 3)
	wantRow(t, w, "2:bb", "1:Aaa", "3:Aaa")
	wantTake(t, w, 2, "bb")
	wantRow(t, w, "1:Aaa", "3:Aaa")
}
