package wire_test

import (
	"slices"
	"testing"

	"hearsay/api"
	"hearsay/wire"
)

// P23.3: Look, Take and Drop.

// TestLook: the bytes, again and again; the message stays.
func TestLook(t *testing.T) {
	w := wireOf(t, contents()...)
	var want []string
	for i, text := range contents() {
		want = append(want, shown(i+1, text))
	}
	for range 3 {
		for i, text := range contents() {
			wantLook(t, w, i+1, text)
		}
		wantRow(t, w, want...)
	}
}

// TestTakeAndDropEachPlace: of rows of every length the message at every place goes, and those behind it keep their order.
func TestTakeAndDropEachPlace(t *testing.T) {
	for length := 1; length <= 9; length++ {
		for n := 1; n <= length; n++ {
			sent := contents()[:length]
			var want []string
			for i, text := range sent {
				if i+1 != n {
					want = append(want, shown(i+1, text))
				}
			}
			w := wireOf(t, sent...)
			wantTake(t, w, n, sent[n-1])
			wantRow(t, w, want...)
			wantGone(t, w, n)
			w = wireOf(t, sent...)
			wantDrop(t, w, n, api.OK)
			wantRow(t, w, want...)
			wantGone(t, w, n)
			wantSend(t, w, "behind them", length+1)
			wantRow(t, w, append(want, shown(length+1, "behind them"))...)
		}
	}
}

// TestAllGoInAnyOrder: of four messages, by Take and Drop in turn; at last the row is empty.
func TestAllGoInAnyOrder(t *testing.T) {
	sent := texts("one", "", "three", "four")
	for _, order := range orders(ints(1, 2, 3, 4)) {
		w := wireOf(t, sent...)
		want := texts("1:one", "2:", "3:three", "4:four")
		for i, n := range order {
			if i%2 == 0 {
				wantTake(t, w, n, sent[n-1])
			} else {
				wantDrop(t, w, n, api.OK)
			}
			want = slices.DeleteFunc(want, func(x string) bool { return x == shown(n, sent[n-1]) })
			wantRow(t, w, want...)
			wantGone(t, w, n)
		}
		wantSend(t, w, "new", 5)
		wantRow(t, w, "5:new")
	}
}

func orders(l []int) [][]int {
	if len(l) == 0 {
		return [][]int{nil}
	}
	var out [][]int
	for i, n := range l {
		for _, rest := range orders(slices.Concat(l[:i], l[i+1:])) {
			out = append(out, append(ints(n), rest...))
		}
	}
	return out
}

// TestWhatNeverWas: 0, numbers below it, the next one, and the greatest and least; on rows that are empty, short, and turned.
func TestWhatNeverWas(t *testing.T) {
	turned := wireOf(t, "a", "b", "c")
	wantSwap(t, turned, 1, 3, api.OK)
	wantDrop(t, turned, 2, api.OK)
	for _, w := range []*wire.Wire{wire.New(), wireOf(t, "a", "b", "c"), turned} {
		for _, n := range append(farNumbers(), 4, 5) {
			wantGone(t, w, n)
		}
	}
}

// TestNumbersAreNoPlaces: a message is found by its number, wherever it stands.
func TestNumbersAreNoPlaces(t *testing.T) {
	w := wireOf(t, "a", "b", "c", "d", "e")
	wantDrop(t, w, 1, api.OK)
	wantSwap(t, w, 2, 5, api.OK)
	wantDrop(t, w, 3, api.OK)
	wantRow(t, w, "5:e", "4:d", "2:b")
	wantLook(t, w, 4, "d")
	wantTake(t, w, 5, "e")
	wantGone(t, w, 1)
	wantGone(t, w, 3)
	wantRow(t, w, "4:d", "2:b")
	wantTake(t, w, 2, "b")
	wantTake(t, w, 4, "d")
	wantRow(t, w)
}

// TestGoneForEver: a number that went isn't there again when later ones come.
func TestGoneForEver(t *testing.T) {
	w := wireOf(t, "a", "b")
	wantDrop(t, w, 1, api.OK)
	wantTake(t, w, 2, "b")
	for n := 3; n < 40; n++ {
		wantSend(t, w, "x", n)
		wantGone(t, w, 1)
		wantGone(t, w, 2)
	}
}

// TestTakeOfTheMost: a message of MaxMessage bytes comes out whole.
func TestTakeOfTheMost(t *testing.T) {
	most := long(api.MaxMessage-1) + "z"
	w := wireOf(t, "a", most, "b")
	wantLook(t, w, 2, most)
	wantTake(t, w, 2, most)
	wantRow(t, w, "1:a", "3:b")
}
