package journal_test

import (
	"fmt"
	"slices"
	"strconv"
	"sync"
	"testing"

	"hearsay/api"
	"hearsay/journal"
)

// P22.9, R3, R4.

// room: a list with its spare room, that can be filled with a mark, and asked for it.
type room struct {
	fill  func(mark int)
	holds func(mark int) bool
}

func roomOf[T any](l []T, sign func(mark int) T, same func(a, b T) bool) room {
	l = l[:cap(l)]
	return room{
		func(mark int) {
			for i := range l {
				l[i] = sign(mark)
			}
		},
		func(mark int) bool {
			return !slices.ContainsFunc(l, func(x T) bool { return !same(x, sign(mark)) })
		},
	}
}

func equal[T comparable](a, b T) bool { return a == b }

func markedByte(mark int) byte         { return byte(mark ^ mark>>8) }
func markedAtom(mark int) api.Atom     { return atom(strconv.Itoa(mark)) }
func markedTest(mark int) api.Test     { return test(mark, none, none) }
func markedRecord(mark int) api.Record { return api.Record{Kind: mark} }

func byteRoom(b []byte) room     { return roomOf(b, markedByte, equal) }
func termRoom(l []api.Term) room { return roomOf(l, num, equal) }

// recordRooms: all lists of a record, those of the atoms in its body's spare room too.
func recordRooms(r api.Record) []room {
	c := r.Clause
	l := []room{byteRoom(r.Bytes), termRoom(c.Head.Args), roomOf(c.Body, markedAtom, sameAtom), roomOf(c.Tests, markedTest, equal)}
	for _, a := range c.Body[:cap(c.Body)] {
		l = append(l, termRoom(a.Args))
	}
	return l
}

func recordsRooms(l []api.Record) []room {
	out := []room{roomOf(l, markedRecord, sameRecord)}
	for _, r := range l[:cap(l)] {
		out = append(out, recordRooms(r)...)
	}
	return out
}

func fillAll(l []room) {
	for i, r := range l {
		r.fill(i)
	}
}

// wantApart: no two of the rooms share memory. All are written over.
func wantApart(t *testing.T, what string, rooms []room) {
	t.Helper()
	fillAll(rooms)
	for i, r := range rooms {
		if !r.holds(i) {
			t.Errorf("R3: %s: two lists share memory", what)
			return
		}
	}
}

// spared: a copy of l with spare room behind it that isn't zero.
func spared[T any](l []T, behind ...T) []T { return append(slices.Clone(l), behind...)[:len(l)] }

func sparedAtom(a api.Atom) api.Atom {
	return says(a.By, a.Name, spared(a.Args, num(71), v(3), txt("spare"))...)
}

// sparedRecord: a copy in which every list has spare room.
func sparedRecord(r api.Record) api.Record {
	c := r.Clause
	out := api.Record{Kind: r.Kind, Bytes: spared(r.Bytes, []byte("more of it")...), Id: r.Id}
	out.Clause = api.Clause{Head: sparedAtom(c.Head), Body: spared(c.Body, atom("spare", v(1)), atom("room")), Tests: spared(c.Tests, test(9, v(8), none))}
	for i, a := range out.Clause.Body {
		out.Clause.Body[i] = sparedAtom(a)
	}
	return out
}

// whole: all of a record, its spare room too, as a text.
func whole(r api.Record) string {
	c := r.Clause
	out := fmt.Sprintf("%v %v %v %x", r, c.Head.Args[:cap(c.Head.Args)], c.Tests[:cap(c.Tests)], r.Bytes[:cap(r.Bytes)])
	for _, a := range c.Body[:cap(c.Body)] {
		out += fmt.Sprintf(" %v %v", a, a.Args[:cap(a.Args)])
	}
	return out
}

// TestNoteLeavesItsRecord: its spare room too; and what becomes of it afterwards isn't seen. Also where it is refused.
func TestNoteLeavesItsRecord(t *testing.T) {
	shared := []api.Term{v(0), txt("ann")}
	all := append(rightRecords(t), assertion(rule(atom("p", shared...), nTimes(3, atom("q", shared...))...)))
	for _, r := range append(all, wrongRecords(t)...) {
		j := newLog(t, "ann", forgetting(api.Digest{1}))
		given := sparedRecord(r)
		before := whole(given)
		err := j.Note(given)
		if whole(given) != before {
			t.Errorf("P22.9: Note changes what it is given: %.400v", r)
		}
		want := seenOf(j)
		fillAll(recordRooms(given))
		if seenOf(j) != want {
			t.Errorf("P22.9: Note keeps what it is given: %.400v", r)
		}
		if err == api.OK {
			wantLog(t, j, "ann", records(forgetting(api.Digest{1}), r))
		} else {
			wantLog(t, j, "ann", records(forgetting(api.Digest{1})))
		}
	}
}

// TestOneRecordNotedTwice: on two journals, changed between.
func TestOneRecordNotedTwice(t *testing.T) {
	b := []byte(certificates(t)[0])
	r := api.Record{Kind: api.RecTake, Bytes: b}
	first := newLog(t, "ann", r)
	b[len(b)-1] ^= 1
	second := newLog(t, "ann", r)
	noted(t, first, r)
	wantLog(t, first, "ann", records(taking(certificates(t)[0]), taking(string(b))))
	wantLog(t, second, "ann", records(taking(string(b))))
}

// TestOpenLeavesItsBytes: their spare room too, when something is noted on the journal as well; and what becomes of them isn't seen.
func TestOpenLeavesItsBytes(t *testing.T) {
	for _, l := range historiesToCut(t) {
		b := plainJournal("ann", l)
		for _, behind := range texts("", "\x00", long(500), exampleNoted()) {
			given := spared([]byte(b+behind), []byte("HSJ1 and more, "+long(300))...)
			before := slices.Clone(given[:cap(given)])
			j, n, err := journal.Open(given)
			if j == nil || n != len(b) || err != api.OK {
				t.Fatalf("P22.4: Open(%.400x): %d, %d", b, n, err)
			}
			noted(t, j, fewRecords(t)...)
			if !slices.Equal(given[:cap(given)], before) {
				t.Errorf("P22.9: Open, or Note behind it, changes the bytes %.400x", b)
			}
			want := seenOf(j)
			byteRoom(given).fill(0xa5)
			if seenOf(j) != want {
				t.Errorf("P22.9: what becomes of the bytes %.400x is seen", b)
			}
			wantLog(t, j, "ann", append(slices.Clone(l), fewRecords(t)...))
		}
	}
}

// TestRefusedBytesStay: of Open, their spare room too.
func TestRefusedBytesStay(t *testing.T) {
	c := newChosen(229)
	for range 2000 {
		given := spared([]byte(c.spoilt(plainJournal("ann", some(c, fewRecords(t), c.Intn(3))))), []byte("HSJ1 and more")...)
		before := slices.Clone(given[:cap(given)])
		journal.Open(given)
		if !slices.Equal(given[:cap(given)], before) {
			t.Fatalf("P22.9: %x was changed", before)
		}
	}
}

// TestSpareRoomIsNotRead: a record that stands behind the bytes' end, in their spare room, isn't there.
func TestSpareRoomIsNotRead(t *testing.T) {
	l := fewRecords(t)
	b := []byte(plainJournal("ann", l))
	for i, end := range endsOf("ann", l) {
		j, n, err := journal.Open(b[:end])
		if j == nil || n != end || err != api.OK || !sameRecords(j.Records(), l[:i]) {
			t.Errorf("P22.4: of %d bytes %d are told, %d", end, n, err)
		}
	}
	if j, n, err := journal.Open(b[:39]); j != nil || n != 0 || err != api.ErrLog {
		t.Errorf("P22.4: of 39 bytes: %d, %d", n, err)
	}
}

// TestOfOneListOfBytes: journals opened from the same bytes, cut at unlike places, go on apart; and the bytes stay.
func TestOfOneListOfBytes(t *testing.T) {
	l := fewRecords(t)
	b := []byte(plainJournal("ann", l))
	var logs []*journal.Log
	for _, end := range endsOf("ann", l) {
		for range 2 {
			j, _, _ := journal.Open(b[:end])
			logs = append(logs, j)
		}
	}
	for i, j := range logs {
		noted(t, j, assertion(rule(atom("p", num(i)))), forgetting(api.Digest{byte(i)}))
	}
	for i, j := range logs {
		wantLog(t, j, "ann", append(slices.Clone(l[:i/2]), assertion(rule(atom("p", num(i)))), forgetting(api.Digest{byte(i)})))
	}
	if string(b) != plainJournal("ann", l) {
		t.Error("P22.9: the bytes were changed")
	}
}

// TestAnswersAreNewMemory: no two lists of Bytes and Records share any, nor those of two answers; what is written into them, or put behind them, is never seen again.
func TestAnswersAreNewMemory(t *testing.T) {
	for _, l := range [][]api.Record{nil, fewRecords(t), rightRecords(t)} {
		j := newLog(t, "ann", l...)
		back, _ := opened(t, string(j.Bytes()))
		for _, x := range []*journal.Log{j, back} {
			wantApart(t, "Bytes and Records", slices.Concat([]room{byteRoom(x.Bytes()), byteRoom(x.Bytes())}, recordsRooms(x.Records()), recordsRooms(x.Records())))
			wantLog(t, x, "ann", l)
			noted(t, x, forgetting(api.Digest{3}))
			wantApart(t, "Bytes and Records", slices.Concat([]room{byteRoom(x.Bytes())}, recordsRooms(x.Records()), []room{byteRoom(x.Bytes())}))
			wantLog(t, x, "ann", append(slices.Clone(l), forgetting(api.Digest{3})))
		}
	}
}

// TestAnswersStay: what was told stays as it is, whatever is noted afterwards.
func TestAnswersStay(t *testing.T) {
	l := fewRecords(t)
	j := newLog(t, "ann")
	for i, r := range l {
		b, told, head := j.Bytes(), j.Records(), j.Head()
		noted(t, j, r)
		noted(t, newLog(t, "ann", l[:i]...), forgetting(api.Digest{7}))
		if want := plainJournal("ann", l[:i]); string(b) != want || !sameRecords(told, l[:i]) || string(head[:]) != want[len(want)-32:] {
			t.Errorf("P22.9: behind a Note what was told has become %x, %+v", b, told)
		}
	}
}

// TestGrownRecords: one that is told can't grow into the next.
func TestGrownRecords(t *testing.T) {
	certs := certificates(t)
	l := records(taking(certs[0]), taking(certs[1]), taking(certs[2]))
	j := newLog(t, "ann", l...)
	told := j.Records()
	for _, r := range told {
		_ = append(r.Bytes, "and much more than there is room for"...)
		_ = append(r.Bytes, 'z')
	}
	if !sameRecords(told, l) {
		t.Errorf("P22.9: the records have become %v", told)
	}
	wantLog(t, j, "ann", l)
}

// TestAgainSharesNothing: what becomes of a context's answers, or of the records that were told, isn't seen in the journal or the context.
func TestAgainSharesNothing(t *testing.T) {
	y := newLife(t)
	j := newLog(t, "ann", y.l...)
	x := wantAgain(t, j, y.ring)
	before := seenIn(x)
	fillAll(recordsRooms(j.Records()))
	byteRoom(j.Bytes()).fill(0xa5)
	for _, b := range x.Certs() {
		byteRoom(b).fill(0x5a)
	}
	for _, c := range slices.Concat(x.Own(), x.Clauses()) {
		fillAll(recordRooms(assertion(c)))
	}
	wantLog(t, j, "ann", y.l)
	if seenIn(x) != before || seenIn(wantAgain(t, j, y.ring)) != before {
		t.Error("P22.9: a context shares memory with what was told")
	}
}

// TestTogether: calls that change nothing, from several goroutines at one time; each its own journal besides.
func TestTogether(t *testing.T) {
	y := newLife(t)
	j := newLog(t, "ann", y.l...)
	want := seenOf(j)
	x := wantAgain(t, j, y.ring)
	context := seenIn(x)
	var all sync.WaitGroup
	for i := range 8 {
		all.Go(func() {
			name := "n" + strconv.Itoa(i)
			own, _ := journal.New(name)
			for k := range 20 {
				if seenOf(j) != want {
					t.Error("R4: a journal that is asked by several answers otherwise")
				}
				if x, err := j.Again(y.ring); err != api.OK || seenIn(x) != context {
					t.Errorf("R4: Again by several: %d", err)
				}
				own.Note(y.l[k%len(y.l)])
				if back, n, err := journal.Open(own.Bytes()); err != api.OK || n != len(own.Bytes()) || back.Head() != own.Head() || len(back.Records()) != k+1 {
					t.Errorf("R4: Open by several: %d, %d", n, err)
				}
			}
		})
	}
	all.Wait()
}
