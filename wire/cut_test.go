package wire_test

import (
	"math"
	"testing"

	"hearsay/api"
)

// P23.7.

// TestCutToEveryLength: the first bytes are left, and the other messages stay.
func TestCutToEveryLength(t *testing.T) {
	for _, text := range texts("", "a", "ab", "\x00\xff\x80\x7f", "a longer message", "é", allBytes()) {
		for length := range len(text) + 1 {
			w := wireOf(t, "ahead", text, "behind", text)
			wantCut(t, w, 2, length, api.OK)
			wantRow(t, w, "1:ahead", shown(2, text[:length]), "3:behind", shown(4, text))
		}
	}
}

// TestCutBeyondTheEnds: nothing changes.
func TestCutBeyondTheEnds(t *testing.T) {
	for _, text := range contents() {
		w := wireOf(t, text, "another that is longer")
		for _, length := range ints(-1, -2, -len(text)-1, len(text)+1, len(text)+2, 1<<32+len(text), math.MinInt, math.MinInt+1, math.MaxInt) {
			wantCut(t, w, 1, length, api.ErrPlace)
		}
		wantRow(t, w, shown(1, text), "2:another that is longer")
	}
}

// TestNoCut: of what isn't there; that comes ahead of what is wrong with the length.
func TestNoCut(t *testing.T) {
	w := wireOf(t, "abc", "def")
	wantDrop(t, w, 1, api.OK)
	for _, n := range append(farNumbers(), 1, 3) {
		for _, length := range ints(0, 1, 3, 4, -1, math.MinInt, math.MaxInt) {
			wantCut(t, w, n, length, api.ErrNoMessage)
		}
	}
	wantRow(t, w, "2:def")
}

// TestCutAgain: from every length to every other: a message never grows again.
func TestCutAgain(t *testing.T) {
	text := "abcdefgh"
	for first := range len(text) + 1 {
		for second := range len(text) + 3 {
			w := wireOf(t, text)
			wantCut(t, w, 1, first, api.OK)
			if second > first {
				wantCut(t, w, 1, second, api.ErrPlace)
				wantRow(t, w, shown(1, text[:first]))
			} else {
				wantCut(t, w, 1, second, api.OK)
				wantRow(t, w, shown(1, text[:second]))
			}
		}
	}
}

// TestCutToNothing: the message is there still, and can be cut to nothing again.
func TestCutToNothing(t *testing.T) {
	w := wireOf(t, "abc", "", "def")
	for range 2 {
		wantCut(t, w, 1, 0, api.OK)
		wantCut(t, w, 2, 0, api.OK)
		wantCut(t, w, 1, 1, api.ErrPlace)
		wantCut(t, w, 2, 1, api.ErrPlace)
		wantRow(t, w, "1:", "2:", "3:def")
	}
	wantCopy(t, w, 1, 4)
	wantTake(t, w, 1, "")
	wantRow(t, w, "2:", "3:def", "4:")
}

// TestCutOfTheMost: at both ends of a message of MaxMessage bytes.
func TestCutOfTheMost(t *testing.T) {
	most := long(api.MaxMessage-1) + "z"
	w := wireOf(t, most)
	wantCut(t, w, 1, api.MaxMessage+1, api.ErrPlace)
	wantCut(t, w, 1, api.MaxMessage, api.OK)
	wantRow(t, w, shown(1, most))
	wantCut(t, w, 1, api.MaxMessage-1, api.OK)
	wantCut(t, w, 1, api.MaxMessage, api.ErrPlace)
	wantRow(t, w, shown(1, most[:api.MaxMessage-1]))
	wantCut(t, w, 1, 1, api.OK)
	wantRow(t, w, "1:a")
}

// TestCopyOfWhatWasCut: it has what is left, and no more.
func TestCopyOfWhatWasCut(t *testing.T) {
	for length := range 7 {
		w := wireOf(t, "abcdef")
		wantCut(t, w, 1, length, api.OK)
		wantCopy(t, w, 1, 2)
		left := "abcdef"[:length]
		wantRow(t, w, shown(1, left), shown(2, left))
		wantCut(t, w, 2, length+1, api.ErrPlace)
		wantFlip(t, w, 2, length, 1, api.ErrPlace)
		wantCut(t, w, 2, length/2, api.OK)
		wantRow(t, w, shown(1, left), shown(2, left[:length/2]))
	}
}
