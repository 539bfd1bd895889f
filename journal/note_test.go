package journal_test

import (
	"fmt"
	"testing"

	"hearsay/api"
)

// P22.2, P22.3: Note, and Bytes, Head, Name and Records behind it.

// TestNoteOfEachRecord: as the first one, and behind another.
func TestNoteOfEachRecord(t *testing.T) {
	for _, r := range rightRecords(t) {
		for _, ahead := range [][]api.Record{nil, records(assertion(fact("ok")))} {
			j := newLog(t, "ann", ahead...)
			noted(t, j, r)
			wantLog(t, j, "ann", append(ahead, r))
		}
	}
}

// TestNoteOneBehindTheOther: each is the last from then on, those ahead of it stay; the same is looked at after each.
func TestNoteOneBehindTheOther(t *testing.T) {
	for _, name := range texts("ann", "\x00", long(64)) {
		j := newLog(t, name)
		all := rightRecords(t)
		for i, r := range all[:40] {
			noted(t, j, r)
			wantLog(t, j, name, all[:i+1])
		}
		noted(t, j, all[40:]...)
		wantLog(t, j, name, all)
	}
}

// TestNoteOfMany: more than a number of one byte, or of two, can tell the bytes of.
func TestNoteOfMany(t *testing.T) {
	var l []api.Record
	for n := range 1500 {
		l = append(l, assertion(rule(atom("p", num(n)))))
	}
	j := newLog(t, "ann", l...)
	wantLog(t, j, "ann", l)
	if len(j.Bytes()) < 1<<16 {
		t.Errorf("just %d bytes", len(j.Bytes()))
	}
}

// TestNumbersOfFourBytes: records whose kind and payload have one byte more and less than a byte can tell, and the longest.
func TestNumbersOfFourBytes(t *testing.T) {
	seen := map[int]bool{}
	for _, args := range []int{0, 4, 8} {
		for _, n := range []int{0, 59, 60, 61, 64} {
			for k := range 32 {
				c := rule(atom(long(k+1), nTimes(args, txt(long(n)))...))
				seen[1+len(clauseBytes(c))] = true
				wantLog(t, newLog(t, "ann", assertion(c)), "ann", records(assertion(c)))
			}
		}
	}
	for _, size := range []int{7, 254, 255, 256, 257, 258, 511, 512, 513} {
		if !seen[size] {
			t.Errorf("no record of %d bytes", size)
		}
	}
	c := saidBy(txt(long(64)), longestClause())
	if n := 1 + len(clauseBytes(c)); n < 6000 {
		t.Errorf("the longest record has %d bytes", n)
	}
	wantLog(t, newLog(t, "ann", retraction(c)), "ann", records(retraction(c)))
}

// TestWrongRecords: on a journal without records, and on one with some; then the right ones go on as if none had come.
func TestWrongRecords(t *testing.T) {
	j := newLog(t, "ann")
	var all []api.Record
	for _, r := range append(fewRecords(t), forgetting(api.Digest{})) {
		wantNotNoted(t, j, wrongRecords(t)...)
		wantLog(t, j, "ann", all)
		noted(t, j, r)
		all = append(all, r)
		wantLog(t, j, "ann", all)
	}
	for _, r := range wrongRecords(t) {
		wantNotNoted(t, j, r)
	}
}

// TestFieldsTooMuch: each field that a kind doesn't use, one at a time, and two; without them the record is noted.
func TestFieldsTooMuch(t *testing.T) {
	for _, r := range fewRecords(t) {
		j := newLog(t, "ann")
		for _, p := range unusedParts(r.Kind) {
			one := r
			p.fill(&one)
			if err := j.Note(one); err != api.ErrReplay {
				t.Errorf("P22.2: a record of kind %d with %s is noted: %d", r.Kind, p.name, err)
			}
			for _, q := range unusedParts(r.Kind) {
				two := one
				q.fill(&two)
				wantNotNoted(t, j, two)
			}
		}
		wantLog(t, j, "ann", nil)
		noted(t, j, r)
		wantLog(t, j, "ann", records(r))
	}
}

// TestEmptyLists: a list without elements is none, whatever room it has; what is told of it is zero.
func TestEmptyLists(t *testing.T) {
	empty := api.Clause{Head: api.Atom{Args: []api.Term{}}, Body: make([]api.Atom, 0, 3), Tests: []api.Test{}}
	full := api.Clause{Head: api.Atom{Args: make([]api.Term, 1)[:0]}, Body: make([]api.Atom, 1)[:0], Tests: make([]api.Test, 1)[:0]}
	for _, r := range fewRecords(t) {
		for _, c := range []api.Clause{empty, full} {
			for _, b := range [][]byte{{}, []byte("room")[:0]} {
				given := r
				if r.Kind > api.RecRetract {
					given.Clause = c
				} else if len(r.Clause.Body) == 0 {
					given.Clause.Body, given.Clause.Tests, given.Clause.Head.Args = c.Body, c.Tests, c.Head.Args
				}
				if r.Kind != api.RecTake {
					given.Bytes = b
				}
				j := newLog(t, "ann", given)
				wantLog(t, j, "ann", records(r))
			}
		}
	}
}

// TestPlayingIsNotAsked: records that no context plays, and such as are there already.
func TestPlayingIsNotAsked(t *testing.T) {
	certs := certificates(t)
	l := records(
		retraction(fact("ok")), retraction(fact("ok")), assertion(fact("ok")), assertion(fact("ok")), forgetting(digestOf("nothing")), forgetting(digestOf("nothing")),
		taking(certs[1]), taking(certs[1]), taking(certs[len(certs)-1]), assertion(saidBy(txt("bob"), fact("ok"))), retraction(longestClause()),
	)
	wantLog(t, newLog(t, "ann", l...), "ann", l)
}

// TestLooksChangeNothing: asked as often as may be.
func TestLooksChangeNothing(t *testing.T) {
	j := newLog(t, "ann")
	r := ringOf(t, "s", "ann")
	for i, x := range fewRecords(t) {
		before := seenOf(j)
		for range 3 {
			j.Bytes()
			j.Head()
			j.Name()
			j.Records()
			j.Again(r)
		}
		if seenOf(j) != before {
			t.Errorf("P22.3: behind looks the journal is %s, was %s", seenOf(j), before)
		}
		noted(t, j, x)
		wantLog(t, j, "ann", fewRecords(t)[:i+1])
	}
}

// TestUnusedFieldsAreZero: of all records that are told, noted or opened.
func TestUnusedFieldsAreZero(t *testing.T) {
	j := newLog(t, "ann", rightRecords(t)...)
	back, _ := opened(t, string(j.Bytes()))
	for _, r := range append(j.Records(), back.Records()...) {
		want := api.Record{Kind: r.Kind}
		switch r.Kind {
		case api.RecAssert, api.RecRetract:
			want.Clause = r.Clause
		case api.RecTake:
			want.Bytes = r.Bytes
		case api.RecForget:
			want.Id = r.Id
		default:
			t.Errorf("P22.3: a record of kind %d", r.Kind)
		}
		if !sameRecord(r, want) || r.Kind == api.RecForget && fmt.Sprint(r.Clause) != fmt.Sprint(api.Clause{}) {
			t.Errorf("P22.3: a record is told as %+v", r)
		}
	}
}

// TestEachRecordHangsOnAllAheadOfIt: the same record has another digest behind another history, or in another's journal.
func TestEachRecordHangsOnAllAheadOfIt(t *testing.T) {
	last, heads := assertion(fact("last")), map[api.Digest]bool{}
	few := fewRecords(t)
	histories := [][]api.Record{nil, few[:1], few[:2], few[1:2], records(few[1], few[0]), few, records(few[0], few[0])}
	for _, name := range principals() {
		for _, l := range histories {
			j := newLog(t, name, l...)
			noted(t, j, last)
			heads[j.Head()] = true
		}
	}
	if len(heads) != len(principals())*len(histories) {
		t.Errorf("P22.3: just %d heads of %d journals", len(heads), len(principals())*len(histories))
	}
}
