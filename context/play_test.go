package context_test

import (
	"testing"

	"hearsay/api"
	"hearsay/cert"
	"hearsay/context"
	"hearsay/keys"
)

// P20.12: Play.

// part: something of a record that a kind may want empty, filled in.
type part struct {
	name string
	fill func(*api.Record)
}

func bytesPart() []part {
	return []part{
		{"a byte", func(r *api.Record) { r.Bytes = []byte{0} }},
		{"bytes", func(r *api.Record) { r.Bytes = []byte("more") }},
	}
}

func idPart() []part {
	return []part{
		{"an id's first byte", func(r *api.Record) { r.Id[0] = 1 }},
		{"an id's last byte", func(r *api.Record) { r.Id[31] = 0x80 }},
	}
}

func clausePart() []part {
	at := func(name string, c api.Clause) part {
		return part{name, func(r *api.Record) { r.Clause = c }}
	}
	return []part{
		at("a name", api.Clause{Head: api.Atom{Name: "p"}}),
		at("a qualifier", api.Clause{Head: api.Atom{By: txt("ann")}}),
		at("a qualifier without a kind", api.Clause{Head: api.Atom{By: api.Term{S: "ann"}}}),
		at("a qualifier of a number alone", api.Clause{Head: api.Atom{By: api.Term{N: -1}}}),
		at("an argument", api.Clause{Head: api.Atom{Args: []api.Term{num(0)}}}),
		at("an argument that is none", api.Clause{Head: api.Atom{Args: []api.Term{none}}}),
		at("a body", api.Clause{Body: []api.Atom{{Name: "p"}}}),
		at("a body of the zero atom", api.Clause{Body: []api.Atom{{}}}),
		at("a test", api.Clause{Tests: []api.Test{{Op: api.OpEq, L: num(1), R: num(1)}}}),
		at("the zero test", api.Clause{Tests: []api.Test{{}}}),
	}
}

// playing: a context with an own clause and a certificate, and a record of each kind that it plays.
type playing struct {
	ring    *keys.Ring
	x       *context.Context
	records map[int]api.Record
}

func newPlaying(t *testing.T) playing {
	t.Helper()
	r := ringOf(t, "s", "ann", "bob")
	x := newContext(t, r, "ann")
	asserted(t, x, "p(a). ok(X) :- W says p(X).")
	here, there := issued(t, r, "bob", "p(b)."), issued(t, r, "bob", "p(c).")
	imported(t, x, here)
	return playing{r, x, map[int]api.Record{
		api.RecAssert:  {Kind: api.RecAssert, Clause: clauseOf(t, "q(X) :- p(X), X != 7.")},
		api.RecRetract: {Kind: api.RecRetract, Clause: clauseOf(t, "p(a).")},
		api.RecTake:    {Kind: api.RecTake, Bytes: there},
		api.RecForget:  {Kind: api.RecForget, Id: cert.Id(here)},
	}}
}

// parts: those that the kind wants empty.
func parts(kind int) []part {
	switch kind {
	case api.RecAssert, api.RecRetract:
		return append(bytesPart(), idPart()...)
	case api.RecTake:
		return append(clausePart(), idPart()...)
	}
	return append(clausePart(), bytesPart()...)
}

// TestPlayWithAPartTooMuch: each part that must be empty or zero, one at a time; nothing changes, and without it the record is played.
func TestPlayWithAPartTooMuch(t *testing.T) {
	for kind := api.RecAssert; kind <= api.RecForget; kind++ {
		for _, y := range parts(kind) {
			p := newPlaying(t)
			record := p.records[kind]
			y.fill(&record)
			wantStill(t, "a record with "+y.name+" too much", p.ring, p.x, func() { wantPlay(t, p.x, record, api.ErrReplay) })
			wantPlay(t, p.x, p.records[kind], api.OK)
		}
	}
}

// TestPlayOfEachKind: the change, and once more: ErrReplay.
func TestPlayOfEachKind(t *testing.T) {
	p := newPlaying(t)
	wantAgain := func(kind int) {
		t.Helper()
		wantPlay(t, p.x, p.records[kind], api.OK)
		wantStill(t, "a record played again", p.ring, p.x, func() { wantPlay(t, p.x, p.records[kind], api.ErrReplay) })
	}
	wantAgain(api.RecAssert)
	wantOwn(t, p.x, "ok(V0) :- V1 says p(V0).", "p(a).", "q(V0) :- p(V0), V0 != 7.")
	wantAgain(api.RecRetract)
	wantOwn(t, p.x, "ok(V0) :- V1 says p(V0).", "q(V0) :- p(V0), V0 != 7.")
	wantAgain(api.RecTake)
	wantClauses(t, p.x, "ok(V0) :- V1 says p(V0).", "bob says p(b).", "bob says p(c).", "q(V0) :- p(V0), V0 != 7.")
	wantAgain(api.RecForget)
	wantClauses(t, p.x, "ok(V0) :- V1 says p(V0).", "bob says p(c).", "q(V0) :- p(V0), V0 != 7.")
	wantCerts(t, p.x, p.records[api.RecTake].Bytes)
}

// TestPlayOfNoKind: whatever else stands there; and a record of one kind with what belongs to another.
func TestPlayOfNoKind(t *testing.T) {
	p := newPlaying(t)
	wantStill(t, "a record of no kind", p.ring, p.x, func() {
		for _, kind := range []int{leastInt, -1, 0, 5, 6, 255, 256 + api.RecAssert, 1 << 32, greatestInt} {
			wantPlay(t, p.x, api.Record{Kind: kind}, api.ErrReplay)
			for _, record := range p.records {
				record.Kind = kind
				wantPlay(t, p.x, record, api.ErrReplay)
			}
		}
		for kind := range p.records {
			wantPlay(t, p.x, api.Record{Kind: kind}, api.ErrReplay)
			for other, record := range p.records {
				if kind != other {
					record.Kind = kind
					wantPlay(t, p.x, record, api.ErrReplay)
				}
			}
		}
	})
}

// invalid: clauses that Check refuses, each with another error.
func invalid() []api.Clause {
	p := func(args ...api.Term) api.Atom { return api.Atom{Name: "p", Args: args} }
	return []api.Clause{
		{}, {Head: api.Atom{Name: "P"}}, {Head: p(none)}, {Head: p(v(0))}, {Head: p(txt(long(65)))}, {Head: p(make([]api.Term, 9)...)},
		{Head: api.Atom{By: num(5), Name: "p"}}, {Head: api.Atom{By: v(0), Name: "p"}, Body: []api.Atom{p(v(0))}},
		{Head: p(v(1)), Body: []api.Atom{p(v(1))}}, {Head: p(), Body: make([]api.Atom, 9)}, {Head: p(), Tests: []api.Test{{}}},
		{Head: p(api.Term{Kind: api.KindNum, N: 1, S: "x"})}, {Head: p(api.Term{Kind: api.KindText, N: 1, S: "a"})},
	}
}

// TestPlayOfClausesThatAreNotValid: neither asserted nor retracted.
func TestPlayOfClausesThatAreNotValid(t *testing.T) {
	p := newPlaying(t)
	wantStill(t, "a clause that isn't valid", p.ring, p.x, func() {
		for _, c := range invalid() {
			wantPlay(t, p.x, api.Record{Kind: api.RecAssert, Clause: c}, api.ErrReplay)
			wantPlay(t, p.x, api.Record{Kind: api.RecRetract, Clause: c}, api.ErrReplay)
		}
	})
}

// TestPlayTakesEmptyLists: a list without elements is none, nil or not.
func TestPlayTakesEmptyLists(t *testing.T) {
	p := newPlaying(t)
	c := p.records[api.RecAssert]
	c.Bytes = []byte{}
	wantPlay(t, p.x, c, api.OK)
	gone := p.records[api.RecRetract]
	gone.Bytes, gone.Clause.Body, gone.Clause.Tests = make([]byte, 0, 9), []api.Atom{}, []api.Test{}
	wantPlay(t, p.x, gone, api.OK)
	for _, kind := range []int{api.RecTake, api.RecForget} {
		record := p.records[kind]
		record.Clause = api.Clause{Head: api.Atom{Args: []api.Term{}}, Body: []api.Atom{}, Tests: []api.Test{}}
		if kind == api.RecForget {
			record.Bytes = []byte{}
		}
		wantPlay(t, p.x, record, api.OK)
	}
}

// TestPlayOfQuotes: a quote is no own clause: it can be asserted beside it, and not retracted.
func TestPlayOfQuotes(t *testing.T) {
	p := newPlaying(t)
	quote := clauseOf(t, "bob says p(b).")
	wantPlay(t, p.x, api.Record{Kind: api.RecRetract, Clause: quote}, api.ErrReplay)
	wantPlay(t, p.x, api.Record{Kind: api.RecAssert, Clause: quote}, api.OK)
	wantPlay(t, p.x, p.records[api.RecForget], api.OK)
	wantClauses(t, p.x, "ok(V0) :- V1 says p(V0).", "p(a).", "bob says p(b).")
	wantPlay(t, p.x, api.Record{Kind: api.RecRetract, Clause: quote}, api.OK)
	wantClauses(t, p.x, "ok(V0) :- V1 says p(V0).", "p(a).")
}

// TestPlayAndMarks: a change that is played is news like any other.
func TestPlayAndMarks(t *testing.T) {
	p := newPlaying(t)
	wantWatch(t, p.x, "ok(X)?", 1, ok)
	wantPlay(t, p.x, p.records[api.RecTake], api.OK)
	wantPlay(t, p.x, p.records[api.RecForget], api.OK)
	wantNews(t, p.x, 1, "ok(c)", "ok(b)")
}
