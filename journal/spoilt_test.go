package journal_test

import (
	"testing"

	"hearsay/api"
	"hearsay/journal"
)

// P22.7, P22.8: bytes that were cut off, and bytes that were changed.

// historiesToCut: without records, with one, with several of every kind, with long ones.
func historiesToCut(t *testing.T) [][]api.Record {
	t.Helper()
	longOnes := records(assertion(longestClause()), taking(certificates(t)[22]), retraction(mostVariables()))
	return append(aheads(t), longOnes, append(fewRecords(t), fewRecords(t)...))
}

// TestEveryCut: the records whose last byte is left, and no others.
func TestEveryCut(t *testing.T) {
	for _, name := range texts("ann", "\x00", long(64)) {
		for _, l := range historiesToCut(t) {
			b, ends := string(newLog(t, name, l...).Bytes()), endsOf(name, l)
			if len(b) != ends[len(l)] {
				t.Fatalf("P22.3: %d bytes, want %d", len(b), ends[len(l)])
			}
			for n := range len(b) + 1 {
				if n < ends[0] {
					wantNotOpened(t, b[:n])
					continue
				}
				wantKept(t, b[:n], ends, wholeOnes(ends, n))
			}
			for i, end := range ends {
				wantOpened(t, b[:end], name, l[:i])
				wantOpened(t, b[:min(end+1, len(b))], name, l[:i])
			}
		}
	}
}

// wholeOnes: how many records stand wholly among the first n bytes; -1, if the head doesn't.
func wholeOnes(ends []int, n int) int {
	whole := -1
	for i, end := range ends {
		if end <= n {
			whole = i
		}
	}
	return whole
}

// wantKept: so many records are left, and what is told is where the last of them ends.
func wantKept(t *testing.T, b string, ends []int, want int) {
	t.Helper()
	j, n, err := journal.Open([]byte(b))
	if j == nil || err != api.OK || n != ends[want] || string(j.Bytes()) != b[:n] || len(j.Records()) != want {
		t.Errorf("P22.7, P22.8: of %.800x %d bytes are told, %d, want %d records", b, n, err, want)
	}
}

// TestEveryByteChanged: in several ways; in the head it is refused, else it ends ahead of the record that has the byte.
func TestEveryByteChanged(t *testing.T) {
	for _, name := range texts("ann", long(64)) {
		for _, l := range aheads(t) {
			b, ends := plainJournal(name, l), endsOf(name, l)
			for place := range b {
				for _, bits := range []byte{1, 2, 4, 8, 0x10, 0x20, 0x40, 0x80, 0xff} {
					if x := turned(b, place, bits); place < ends[0] {
						wantNotOpened(t, x)
					} else {
						wantKept(t, x, ends, wholeOnes(ends, place))
					}
				}
			}
		}
	}
}

// TestEveryChangeOfAByte: of one record of every kind, all 255.
func TestEveryChangeOfAByte(t *testing.T) {
	l := fewRecords(t)[:4]
	for i := range l {
		b, ends := plainJournal("ann", l[i:i+1]), endsOf("ann", l[i:i+1])
		for place := range b {
			for bits := 1; bits < 256; bits++ {
				if x := turned(b, place, byte(bits)); place < ends[0] {
					wantNotOpened(t, x)
				} else {
					wantKept(t, x, ends, 0)
				}
			}
		}
	}
}

// TestSpoiltRecordsStayAway: several bytes changed: what is left are the first ones as they were.
func TestSpoiltRecordsStayAway(t *testing.T) {
	c := newChosen(228)
	l := append(fewRecords(t), fewRecords(t)...)
	b, ends := plainJournal("ann", l), endsOf("ann", l)
	kept := map[int]int{}
	for range 3000 {
		x, first := b, len(b)
		for range 1 + c.Intn(5) {
			place := ends[0] + c.Intn(len(b)-ends[0])
			if x[place] == b[place] {
				x, first = turned(x, place, byte(1+c.Intn(255))), min(first, place)
			}
		}
		want := wholeOnes(ends, first)
		wantOpened(t, x, "ann", l[:want])
		kept[want]++
	}
	if len(kept) != len(l) {
		t.Errorf("too much alike: %v", kept)
	}
}

// TestChangedAndMended: a byte that is changed back is as it was.
func TestChangedAndMended(t *testing.T) {
	l := fewRecords(t)
	b := plainJournal("ann", l)
	for place := range b {
		wantOpened(t, turned(turned(b, place, 0x55), place, 0x55), "ann", l)
	}
}
