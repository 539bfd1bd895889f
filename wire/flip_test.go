package wire_test

import (
	"math"
	"slices"
	"testing"

	"hearsay/api"
)

// P23.6.

// manyBits: those of which the lowest eight count.
func manyBits() []int {
	return ints(0, 1, 2, 128, 127, 255, 256, 257, 511, 1<<16, 1<<32+5, -1, -2, -128, -129, -255, -256, -257, math.MinInt, math.MinInt+1, math.MaxInt, math.MaxInt-1)
}

// turned: the text with one byte turned, one bit after the other.
func turned(text string, at, bits int) string {
	b := []byte(text)
	for bit := range 8 {
		weight := byte(1) << bit
		if lowest(bits)/weight%2 == 0 {
			continue
		}
		if b[at]/weight%2 == 0 {
			b[at] += weight
		} else {
			b[at] -= weight
		}
	}
	return string(b)
}

// TestFlipEveryPlace: with all kinds of bits: that byte is turned, and nothing else.
func TestFlipEveryPlace(t *testing.T) {
	for _, text := range texts("a", "ab", "\x00\xff\x80\x7f", "a longer message", "é") {
		for at := range len(text) {
			for _, bits := range manyBits() {
				w := wireOf(t, "ahead", text, "behind", text)
				wantFlip(t, w, 2, at, bits, api.OK)
				wantRow(t, w, "1:ahead", shown(2, turned(text, at, bits)), "3:behind", shown(4, text))
			}
		}
	}
}

// TestFlipEveryByte: each byte with each eight bits, told as numbers above and below 0.
func TestFlipEveryByte(t *testing.T) {
	w := wireOf(t, allBytes())
	for bits := range 256 {
		for at := range 256 {
			wantFlip(t, w, 1, at, bits-256*(at%3), api.OK)
		}
		b, _ := w.Look(1)
		for at := range 256 {
			if want := turned(allBytes(), at, bits)[at]; len(b) != 256 || b[at] != want {
				t.Fatalf("P23.6: the byte %d with the bits %d is %v, want %d", at, bits, b, want)
			}
		}
		for at := range 256 {
			wantFlip(t, w, 1, at, bits, api.OK)
		}
	}
	wantRow(t, w, shown(1, allBytes()))
}

// TestFlipBeyondTheEnds: nothing changes, whatever the bits are.
func TestFlipBeyondTheEnds(t *testing.T) {
	for _, text := range contents() {
		w := wireOf(t, text, "another that is longer")
		for _, at := range ints(-1, -2, -len(text), -len(text)-1, len(text), len(text)+1, 1<<32+len(text), math.MinInt, math.MinInt+1, math.MaxInt) {
			if at >= 0 && at < len(text) {
				continue
			}
			for _, bits := range manyBits() {
				wantFlip(t, w, 1, at, bits, api.ErrPlace)
			}
		}
		wantRow(t, w, shown(1, text), "2:another that is longer")
	}
}

// TestNoFlip: of what isn't there; that comes ahead of what is wrong with the place.
func TestNoFlip(t *testing.T) {
	w := wireOf(t, "abc", "def")
	wantDrop(t, w, 1, api.OK)
	for _, n := range append(farNumbers(), 1, 3) {
		for _, at := range ints(0, 1, 3, -1, math.MinInt, math.MaxInt) {
			wantFlip(t, w, n, at, 1, api.ErrNoMessage)
		}
	}
	wantRow(t, w, "2:def")
}

// TestFlipWithoutBits: nothing changes, and yet the place must be there.
func TestFlipWithoutBits(t *testing.T) {
	w := wireOf(t, "ab", "")
	for _, bits := range ints(0, 256, -256, 1<<20, math.MinInt) {
		wantFlip(t, w, 1, 0, bits, api.OK)
		wantFlip(t, w, 1, 1, bits, api.OK)
		wantFlip(t, w, 1, 2, bits, api.ErrPlace)
		wantFlip(t, w, 2, 0, bits, api.ErrPlace)
		wantFlip(t, w, 3, 0, bits, api.ErrNoMessage)
		wantRow(t, w, "1:ab", "2:")
	}
}

// TestFlipOfTheMost: at both ends of a message of MaxMessage bytes.
func TestFlipOfTheMost(t *testing.T) {
	w := wireOf(t, long(api.MaxMessage))
	wantFlip(t, w, 1, api.MaxMessage, 1, api.ErrPlace)
	wantFlip(t, w, 1, api.MaxMessage-1, 32, api.OK)
	wantFlip(t, w, 1, 0, 32, api.OK)
	wantRow(t, w, "1:A"+long(api.MaxMessage-2)+"A")
}

// TestFlipOfWhatWasCut: what was cut off has no places any more, and doesn't come again.
func TestFlipOfWhatWasCut(t *testing.T) {
	for length := range 7 {
		w := wireOf(t, "abcdef", "other")
		wantCut(t, w, 1, length, api.OK)
		for at := range 8 {
			want := api.OK
			if at >= length {
				want = api.ErrPlace
			}
			wantFlip(t, w, 1, at, 32, want)
		}
		wantRow(t, w, shown(1, "ABCDEF"[:length]), "2:other")
	}
}

// TestFlipsMeet: several at one place come to their exclusive-or, in any order.
func TestFlipsMeet(t *testing.T) {
	for _, order := range orders(ints(0, 1, 2, 3)) {
		w := wireOf(t, "xyz")
		bits := ints(1, 130, -1, 77)
		for _, i := range order {
			wantFlip(t, w, 1, 1, bits[i], api.OK)
		}
		want := []byte("xyz")
		want[1] ^= 1 ^ 130 ^ 255 ^ 77
		if got, _ := w.Look(1); !slices.Equal(got, want) {
			t.Errorf("P23.6: flipped in the order %d: %x, want %x", order, got, want)
		}
	}
}
