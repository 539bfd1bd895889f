package journal_test

import (
	"fmt"
	"testing"

	"hearsay/api"
	"hearsay/journal"
)

// P22.6: there and back.

// wantBack: opened it is the same, and goes on as the one does, with each of the records.
func wantBack(t *testing.T, j *journal.Log, further ...api.Record) {
	t.Helper()
	b := string(j.Bytes())
	back, n := opened(t, b)
	if n != len(b) || seenOf(back) != seenOf(j) {
		t.Errorf("P22.6: opened, %d bytes of %d, it is %.800s, want %.800s", n, len(b), seenOf(back), seenOf(j))
	}
	for _, r := range further {
		if x, y := j.Note(r), back.Note(r); x != y {
			t.Errorf("P22.6: Note(%+v) is %d, and of what was opened %d", r, x, y)
		}
		if seenOf(back) != seenOf(j) {
			t.Errorf("P22.6: behind Note(%.400v) what was opened is another", r)
		}
	}
}

func TestThereAndBack(t *testing.T) {
	for _, name := range principals() {
		for _, l := range aheads(t) {
			wantBack(t, newLog(t, name, l...), append(fewRecords(t), wrongRecords(t)[:20]...)...)
		}
	}
	for _, r := range rightRecords(t) {
		wantBack(t, newLog(t, "ann", r), r, forgetting(api.Digest{1}))
	}
	wantBack(t, newLog(t, "ann", rightRecords(t)...), fewRecords(t)...)
}

// TestBackAndBack: opened behind each record, it goes on to the same bytes.
func TestBackAndBack(t *testing.T) {
	all := rightRecords(t)
	j := newLog(t, "ann")
	for _, r := range all {
		j, _ = opened(t, string(j.Bytes()))
		noted(t, j, r)
	}
	wantLog(t, j, "ann", all)
}

// TestUnlikeOnes: journals with unlike names or records have unlike bytes.
func TestUnlikeOnes(t *testing.T) {
	few := fewRecords(t)
	strings, journals := map[string]bool{}, map[string]bool{}
	for _, name := range principals() {
		for i := range few {
			for k := range few {
				for _, l := range [][]api.Record{nil, few[i : i+1], records(few[i], few[k])} {
					strings[string(newLog(t, name, l...).Bytes())] = true
					journals[fmt.Sprintf("%q %+v", name, l)] = true
				}
			}
		}
	}
	if len(strings) != len(journals) || len(strings) != len(principals())*(1+6+36) {
		t.Errorf("P22.6: %d journals have %d strings of bytes", len(journals), len(strings))
	}
}

// TestFirstSoMany: of any bytes that Open takes; and opened again they are the same.
func TestFirstSoMany(t *testing.T) {
	c := newChosen(227)
	left := 0
	for range 3000 {
		b := c.spoilt(plainJournal(one(c, principals()...), some(c, fewRecords(t), c.Intn(6))))
		j, n, err := journal.Open([]byte(b))
		if err != api.OK {
			continue
		}
		if string(j.Bytes()) != b[:n] {
			t.Errorf("P22.6: of %.800x %d bytes are told, %.800x is left", b, n, j.Bytes())
		}
		if n < len(b) {
			left++
		}
		again, m := opened(t, b[:n])
		if m != n || seenOf(again) != seenOf(j) {
			t.Errorf("P22.6: %.800x is another one when it is opened again", b[:n])
		}
		noted(t, j, forgetting(api.Digest{5}))
		if want := withRecord(b[:n], forgetting(api.Digest{5})); string(j.Bytes()) != want {
			t.Errorf("P22.6: %.800x goes on as %.800x", b[:n], j.Bytes())
		}
	}
	if left < 500 {
		t.Errorf("too much alike: %d", left)
	}
}
