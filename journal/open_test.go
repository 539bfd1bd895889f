package journal_test

import (
	"strings"
	"testing"

	"hearsay/api"
	"hearsay/journal"
)

// P22.4: Open.

// TestHeads: of every name, with nothing behind it and with records.
func TestHeads(t *testing.T) {
	for _, name := range principals() {
		wantOpened(t, plainJournal(name, nil), name, nil)
		wantOpened(t, plainJournal(name, fewRecords(t)), name, fewRecords(t))
	}
	for n := 1; n <= 64; n++ {
		for _, s := range texts("a", "\x00", "\xff") {
			wantOpened(t, headBytes("HSJ1", n, strings.Repeat(s, n)), strings.Repeat(s, n), nil)
		}
	}
}

// TestOtherBeginnings: though the digest is right.
func TestOtherBeginnings(t *testing.T) {
	for place := range 4 {
		for bits := 1; bits < 256; bits++ {
			wantNotOpened(t, headBytes(turned("HSJ1", place, byte(bits)), 3, "ann"))
		}
	}
	for _, b := range texts("", "H", "HSJ", "HSJ1", "\x00HSJ1", "hsj1", "HSC1", "HSB1", "HSJ2", "HSJ0", "HHSJ1", strings.Repeat("\x00", 1000)) {
		wantNotOpened(t, b)
		if b != "HSJ1" {
			wantNotOpened(t, headBytes(b, 3, "ann"))
		}
	}
	for _, b := range texts(certificates(t)[0], exampleNoted()[1:], exampleNoted()[40:], unhex(exampleD0)+exampleNoted()) {
		wantNotOpened(t, b)
	}
}

// TestLengthsOfNames: each byte that may stand there, with as many bytes as it says, with fewer and with more; the digest is right of what there is.
func TestLengthsOfNames(t *testing.T) {
	for n := range 256 {
		b := headBytes("HSJ1", n, long(n))
		if n == 0 || n > 64 {
			wantNotOpened(t, b)
			wantNotOpened(t, withRecord(b, assertion(fact("ok"))))
			wantNotOpened(t, headBytes("HSJ1", n, "ann"))
			continue
		}
		wantOpened(t, b, long(n), nil)
		for cut := range b {
			wantNotOpened(t, b[:cut])
		}
		wantNotOpened(t, headBytes("HSJ1", n, long(n-1)))
		wantNotOpened(t, headBytes("HSJ1", n, long(n+1)))
	}
}

// TestOtherDigestsOfHeads: each of its bits turned, digests of other bytes, and none.
func TestOtherDigestsOfHeads(t *testing.T) {
	const head = "HSJ1\x03ann"
	for bit := range 8 * 32 {
		wantNotOpened(t, turned(head+sum(head), len(head)+bit/8, 1<<(bit%8)))
	}
	for _, d := range texts(sum(""), sum("ann"), sum("\x03ann"), sum("HSJ1"), sum(head[:7]), sum(head+"\x00"), sum(sum(head)), sum(strings.Repeat("\x00", 32)+head), strings.Repeat("\x00", 32), strings.Repeat("\xff", 32)) {
		wantNotOpened(t, head+d)
		wantNotOpened(t, withRecord(head+d, assertion(fact("ok"))))
	}
	wantNotOpened(t, head)
	wantNotOpened(t, head+sum(head)[:31])
}

// TestEachRecordOpened: as the first, and behind others.
func TestEachRecordOpened(t *testing.T) {
	for _, r := range rightRecords(t) {
		wantOpened(t, plainJournal("ann", records(r)), "ann", records(r))
	}
	wantOpened(t, plainJournal("ann", rightRecords(t)), "ann", rightRecords(t))
}

// aheads: journals behind which something is put.
func aheads(t *testing.T) [][]api.Record {
	t.Helper()
	return [][]api.Record{nil, records(assertion(fact("ok"))), fewRecords(t)}
}

// wantEndsAhead: what is put behind a journal by put isn't taken, nor what stands behind that, though it is chained to it.
func wantEndsAhead(t *testing.T, put func(b string) string) {
	t.Helper()
	for _, l := range aheads(t) {
		b := put(plainJournal("ann", l))
		wantOpened(t, b, "ann", l)
		wantOpened(t, withRecord(b, forgetting(api.Digest{})), "ann", l)
		wantOpened(t, b+strings.Repeat("\x00", 100), "ann", l)
	}
}

// TestKindsByHand: all bytes as a kind, with each sort of payload: just those that the table has are taken.
func TestKindsByHand(t *testing.T) {
	payloads := texts("", "\x00", clauseBytes(fact("ok")), clauseBytes(saidBy(txt("bob"), fact("ok"))), certificates(t)[0], strings.Repeat("\x00", 32), sum("x"))
	taken := 0
	for kind := range 256 {
		for _, p := range payloads {
			r, right := plainRecord(byte(kind), p)
			if !right {
				wantEndsAhead(t, func(b string) string { return handMade(b, 1+len(p), kind, p) })
				continue
			}
			taken++
			for _, l := range aheads(t) {
				wantOpened(t, handMade(plainJournal("ann", l), 1+len(p), kind, p), "ann", append(l, r))
			}
		}
	}
	if taken != 2*2+1+2 {
		t.Errorf("%d are taken", taken)
	}
}

// wrongPayloads: of each kind, such as no right record has.
func wrongPayloads(t *testing.T) map[int][]string {
	t.Helper()
	ok := clauseBytes(fact("ok"))
	clauses := texts("", "\x00", "ok.", ok+"\x00", ok+ok, "\x00"+ok, "\x01"+ok[1:], certificates(t)[0], strings.Repeat("\x00", 32), clauseBytes(rule(atom("p", v(0)))), clauseBytes(rule(atom("p"), atom("q", v(1)))), clauseBytes(rule(says(v(0), "p"), atom("q", v(0)))), clauseBytes(fact("says")), clauseBytes(fact("Ok")), clauseBytes(fact(long(33))))
	for n := range ok {
		clauses = append(clauses, ok[:n])
	}
	forgotten := texts(ok, certificates(t)[0])
	for n := range 70 {
		if n != 32 {
			forgotten = append(forgotten, strings.Repeat("\x00", n))
		}
	}
	taken := noCertificates(t)
	good := certificates(t)[0]
	for n := range good {
		taken = append(taken, good[:n])
	}
	return map[int][]string{1: clauses, 2: clauses, 3: taken, 4: forgotten}
}

func TestPayloadsByHand(t *testing.T) {
	for kind, l := range wrongPayloads(t) {
		for _, p := range l {
			wantEndsAhead(t, func(b string) string { return handMade(b, 1+len(p), kind, p) })
		}
	}
}

// TestNumbersByHand: a number that isn't that of kind and payload; the digest is right of all that stands ahead of it.
func TestNumbersByHand(t *testing.T) {
	for _, r := range fewRecords(t) {
		p := payload(r)
		size := 1 + len(p)
		for _, number := range []int{0, 1, 2, size - 2, size - 1, size + 1, size + 2, size + 31, size + 32, size + 33, size + 36, size << 8, size + 256, size + 1<<16, size + 1<<24, 1<<31 - 1, 1 << 31, 1<<32 - 33, 1<<32 - 32, 1<<32 - 4, 1<<32 - 1} {
			if number != size {
				wantEndsAhead(t, func(b string) string { return handMade(b, number, r.Kind, p) })
			}
		}
	}
	// No kind at all: a number of 0, and the digest right behind it.
	wantEndsAhead(t, func(b string) string { return b + numberBytes(0) + sum(b[len(b)-32:]+numberBytes(0)) })
	for n := 1; n < 4; n++ {
		wantEndsAhead(t, func(b string) string { return b + strings.Repeat("\x00", n) })
		wantEndsAhead(t, func(b string) string { return b + strings.Repeat("\xff", n) })
	}
	wantEndsAhead(t, func(b string) string { return b + "\xff\xff\xff\xff" })
	wantEndsAhead(t, func(b string) string { return b + "\xff\xff\xff\xff\x01" })
	wantEndsAhead(t, func(b string) string { return b + "\x7f\xff\xff\xff\x04" + strings.Repeat("\x00", 64) })
}

// TestNumbersThatReachOverTheDigest: the payload is right, if the number's bytes are taken; but no digest follows, or what follows is none.
func TestNumbersThatReachOverTheDigest(t *testing.T) {
	id := sum("x")
	wantEndsAhead(t, func(b string) string { return b + numberBytes(33) + "\x04" + id })
	wantEndsAhead(t, func(b string) string { return b + numberBytes(33) + "\x04" + id + id })
	for n := range 32 {
		for _, l := range aheads(t) {
			b := plainJournal("ann", l)
			wantOpened(t, b+(withRecord(b, forgetting(api.Digest([]byte(id))))[len(b):])[:4+33+n], "ann", l)
		}
	}
}

// TestOtherDigests: each bit of a record's digest turned, and digests of other bytes.
func TestOtherDigests(t *testing.T) {
	for _, r := range fewRecords(t) {
		inside := numberBytes(1+len(payload(r))) + oneByte(r.Kind) + payload(r)
		for bit := range 8 * 32 {
			b := plainJournal("ann", nil)
			wantOpened(t, turned(withRecord(b, r), len(b)+len(inside)+bit/8, 1<<(bit%8)), "ann", nil)
		}
		for _, digest := range []func(b string) string{
			func(b string) string { return sum(inside) },
			func(b string) string { return sum(b + inside) },
			func(b string) string { return sum(inside + b[len(b)-32:]) },
			func(b string) string { return sum(b[len(b)-32:] + inside[4:]) },
			func(b string) string { return sum(b[len(b)-32:] + payload(r)) },
			func(b string) string { return sum(b[len(b)-33:] + inside) },
			func(b string) string { return sum(b[len(b)-31:] + inside) },
			func(b string) string { return sum(b[len(b)-32:] + inside + "\x00") },
			func(b string) string { return sum(strings.Repeat("\x00", 32) + inside) },
			func(b string) string { return sum(sum(b) + inside) },
			func(b string) string { return b[len(b)-32:] },
			func(b string) string { return strings.Repeat("\x00", 32) },
		} {
			wantEndsAhead(t, func(b string) string { return b + inside + digest(b) })
		}
	}
}

// TestRecordsOfAnotherPlace: whole records, but chained to something else: taken out, doubled, in another order, of another's journal.
func TestRecordsOfAnotherPlace(t *testing.T) {
	l := fewRecords(t)
	b, ends := plainJournal("ann", l), endsOf("ann", l)
	piece := func(i int) string { return b[ends[i]:ends[i+1]] }
	for i := range l {
		wantOpened(t, b[:ends[i]]+b[ends[i+1]:], "ann", l[:i])
		wantOpened(t, b[:ends[i+1]]+piece(i)+b[ends[i+1]:], "ann", l[:i+1])
		for k := range i {
			wantOpened(t, b[:ends[k]]+piece(i)+b[ends[k]:], "ann", l[:k])
			wantOpened(t, b[:ends[i]]+piece(k), "ann", l[:i])
		}
		other := plainJournal("anna", l)
		wantOpened(t, b[:ends[i]]+other[ends[i]+1:], "ann", l[:i])
		wantOpened(t, b[:ends[i]]+b, "ann", l[:i])
		wantOpened(t, b[:ends[i]]+b[:ends[0]], "ann", l[:i])
	}
}

// TestBytesBehind: whatever they are, they are left out; but a right record's are taken.
func TestBytesBehind(t *testing.T) {
	for _, l := range aheads(t) {
		b := plainJournal("ann", l)
		for x := range 256 {
			wantOpened(t, b+oneByte(x), "ann", l)
			wantOpened(t, b+strings.Repeat(oneByte(x), 50), "ann", l)
		}
		for _, behind := range texts(b, "HSJ1", sum("x"), b[len(b)-32:], numberBytes(8)+"\x01"+clauseBytes(fact("ok")), strings.Repeat("\x00", 5000), certificates(t)[0]) {
			wantOpened(t, b+behind, "ann", l)
		}
		for _, r := range fewRecords(t) {
			wantOpened(t, withRecord(b, r), "ann", append(l, r))
			wantOpened(t, withRecord(b, r)+"\x00", "ann", append(l, r))
			wantOpened(t, withRecord(withRecord(b, r), r), "ann", append(l, r, r))
		}
	}
}

// wantAsPlain: Open answers what the chapter's words do; and Bytes are the first so many that it told (P22.6).
func wantAsPlain(t *testing.T, b string) (int, api.Errno) {
	t.Helper()
	name, l, n, err := plainOpen(b)
	if err != api.OK {
		wantNotOpened(t, b)
		return 0, err
	}
	wantOpened(t, b, name, l)
	if j, told := opened(t, b); told != n || string(j.Bytes()) != b[:n] {
		t.Errorf("P22.6: of %.800x %d bytes are told, want %d, and %.800x is left", b, told, n, j.Bytes())
	}
	return len(l), api.OK
}

// TestSpoiltByChance: beside the plain reader.
func TestSpoiltByChance(t *testing.T) {
	c := newChosen(224)
	all := fewRecords(t)
	told, kept := map[api.Errno]int{}, map[int]int{}
	for range 4000 {
		n, err := wantAsPlain(t, c.spoilt(plainJournal(one(c, principals()...), some(c, all, c.Intn(6)))))
		told[err]++
		kept[n]++
	}
	if told[api.OK] < 500 || told[api.ErrLog] < 500 || kept[1] < 100 || kept[2] < 100 || kept[3] < 100 {
		t.Errorf("too much alike: %v, %v", told, kept)
	}
}

// TestSpoiltAndMended: contents spoilt by chance ahead of the digest, which is worked out of what there is then: so what is read decides.
func TestSpoiltAndMended(t *testing.T) {
	c := newChosen(225)
	all := rightRecords(t)
	taken := map[int]int{}
	for range 4000 {
		b := plainJournal("ann", some(c, all, c.Intn(3)))
		r := one(c, all...)
		content := c.spoilt(oneByte(r.Kind) + payload(r))
		if content == "" {
			continue
		}
		_, ahead, _, _ := plainOpen(b)
		b = handMade(b, len(content), int(content[0]), content[1:])
		n, _ := wantAsPlain(t, withRecord(b, one(c, all...)))
		taken[n-len(ahead)]++
	}
	if taken[0] < 1000 || taken[2] < 300 || len(taken) != 2 {
		t.Errorf("too much alike: %v", taken)
	}
}

// TestAnyBytes: by chance, of all lengths.
func TestAnyBytes(t *testing.T) {
	c := newChosen(226)
	for range 3000 {
		b := make([]byte, c.Intn(200))
		c.Read(b)
		wantAsPlain(t, string(b))
		wantAsPlain(t, "HSJ1"+string(b))
		wantAsPlain(t, exampleEmpty()+string(b))
		wantAsPlain(t, exampleNoted()+"\x00\x00\x00"+string(b))
	}
	if j, n, err := journal.Open(nil); j != nil || n != 0 || err != api.ErrLog {
		t.Errorf("P22.4: Open(nil) is %v, %d, %d", j, n, err)
	}
}
