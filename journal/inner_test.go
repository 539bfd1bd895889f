package journal

import (
	"slices"
	"strings"
	"testing"

	"hearsay/api"
)

// What no call shows: how the records come out of the bytes, and the kinds' numbers in them.

// someRecords: bytes of three records, and where each ends.
func someRecords(t *testing.T) ([]byte, []int) {
	t.Helper()
	l, err := New("ann")
	if err != api.OK {
		t.Fatalf("P22.1: New: %d", err)
	}
	start := len(l.whole)
	var ends []int
	for i := range 3 {
		if err := l.Note(api.Record{Kind: api.RecForget, Id: api.Digest{byte(i)}}); err != api.OK {
			t.Fatalf("P22.2: Note: %d", err)
		}
		ends = append(ends, len(l.whole)-start)
	}
	return behindHead(l.whole), ends
}

func TestKindsInTheBytes(t *testing.T) {
	if kindAssert != 1 || kindRetract != 2 || kindTake != 3 || kindForget != 4 {
		t.Errorf("Ways: the kinds are %d, %d, %d, %d", kindAssert, kindRetract, kindTake, kindForget)
	}
}

// TestPieces: each is the next record's bytes, and has no room behind it.
func TestPieces(t *testing.T) {
	b, ends := someRecords(t)
	before := string(b)
	all := pieces(b)
	for range 2 { // it can be ranged over again
		at, count := 0, 0
		for p := range all {
			if string(p) != before[at:ends[count]] || cap(p) != len(p) {
				t.Errorf("Ways: the record %d is %x, with room for %d", count, p, cap(p))
			}
			_ = append(p, "grown"...)
			at = ends[count]
			count++
		}
		if count != 3 || string(b) != before {
			t.Errorf("Ways: %d records came, of the bytes %x", count, b)
		}
	}
}

// TestPiecesLeft: a range that is left early asks for no more.
func TestPiecesLeft(t *testing.T) {
	b, _ := someRecords(t)
	for most := 1; most <= 3; most++ {
		count := 0
		for range pieces(b) {
			if count++; count == most {
				break
			}
		}
		if count != most {
			t.Errorf("Ways: %d records came, want %d", count, most)
		}
	}
}

// TestPiecesOfCutBytes: those that are whole; bytes without end are none.
func TestPiecesOfCutBytes(t *testing.T) {
	b, ends := someRecords(t)
	for n := range len(b) + 1 {
		want := 0
		for want < len(ends) && ends[want] <= n {
			want++
		}
		if got := len(slices.Collect(pieces(b[:n]))); got != want {
			t.Errorf("Ways: of %d bytes %d records come, want %d", n, got, want)
		}
	}
	for _, s := range []string{"", "\x00", "\x00\x00\x00\x00", strings.Repeat("\x00", 500), strings.Repeat("\xff", 500), "\x00\x00\x00\x01" + strings.Repeat("x", 32)} {
		if got := len(slices.Collect(pieces([]byte(s)))); got != 0 {
			t.Errorf("Ways: of %x %d records come", s, got)
		}
	}
}
