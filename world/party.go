package world

import (
	"slices"

	"hearsay/api"
	"hearsay/clause"
	"hearsay/context"
	"hearsay/digest"
	"hearsay/journal"
	"hearsay/term"
)

// party: a principal's context, and the journal of its changes.
type party struct {
	context *context.Context
	journal *journal.Log
}

// partyOf: who must have a context. ErrNoContext.
func (w *World) partyOf(who string) (*party, error) {
	p, there := w.parties[who]
	if !there {
		return nil, refused(api.ErrNoContext)
	}
	return p, nil
}

func principal(name string) bool {
	return term.Principal(api.Term{Kind: api.KindText, S: name})
}

func (w *World) enroll(d api.Do) (api.Told, error) {
	if !principal(d.Who) {
		return api.Told{}, refused(api.ErrPrincipal)
	}
	if _, there := w.parties[d.Who]; there {
		return api.Told{}, refused(api.ErrEnrolled)
	}
	if len(w.parties) >= api.MaxContexts {
		return api.Told{}, refused(api.ErrContexts)
	}
	// No error can be from here on: a principal that is new gets a key, and a ring takes more of them than a world.
	w.ring.Enroll(d.Who)
	held, _ := context.New(w.ring, d.Who)
	log, _ := journal.New(d.Who)
	w.parties[d.Who] = &party{held, log}
	return api.Told{}, nil
}

func (w *World) assert(d api.Do) (api.Told, error) {
	p, err := w.partyOf(d.Who)
	if err != nil {
		return api.Told{}, err
	}
	before := p.context.Own()
	if _, fault := p.context.Assert(d.Text); fault.Err != api.OK {
		return api.Told{}, refusedAt(fault)
	}
	came := without(p.context.Own(), before)
	p.noteEach(api.RecAssert, came)
	return api.Told{N: len(came)}, nil
}

func (w *World) retract(d api.Do) (api.Told, error) {
	p, err := w.partyOf(d.Who)
	if err != nil {
		return api.Told{}, err
	}
	before := p.context.Own()
	if _, fault := p.context.Retract(d.Text); fault.Err != api.OK {
		return api.Told{}, refusedAt(fault)
	}
	gone := without(before, p.context.Own())
	p.noteEach(api.RecRetract, gone)
	return api.Told{N: len(gone)}, nil
}

// without: the clauses of the one list, which is the caller's to be changed, that aren't in the other. Both are in order.
func without(l, others []api.Clause) []api.Clause {
	return slices.DeleteFunc(l, func(c api.Clause) bool {
		_, there := slices.BinarySearchFunc(others, c, clause.Compare)
		return there
	})
}

// noteEach: a record of this kind of each clause, in their order.
func (p *party) noteEach(kind int, clauses []api.Clause) {
	for _, c := range clauses {
		p.note(api.Record{Kind: kind, Clause: c})
	}
}

// note: a change that the context has made. A journal refuses none of these.
func (p *party) note(r api.Record) { p.journal.Note(r) }

func (w *World) forget(d api.Do) (api.Told, error) {
	p, err := w.partyOf(d.Who)
	if err != nil {
		return api.Told{}, err
	}
	id, unread := digest.FromHex(d.Text)
	if unread != api.OK {
		return api.Told{}, refused(unread)
	}
	if missing := p.context.Forget(id); missing != api.OK {
		return api.Told{}, refused(missing)
	}
	p.note(api.Record{Kind: api.RecForget, Id: id})
	return api.Told{}, nil
}

func (w *World) crash(d api.Do) (api.Told, error) {
	p, err := w.partyOf(d.Who)
	if err != nil {
		return api.Told{}, err
	}
	p.journal = beginning(p.journal, d.M)
	p.context, _ = p.journal.Again(w.ring) // no error can be: what is left was played in this order before
	return api.Told{N: len(p.journal.Records())}, nil
}

// beginning: the journal that its first bytes, so many, still make; a new one, if they don't hold its whole head.
func beginning(log *journal.Log, length int) *journal.Log {
	b := log.Bytes()
	left, _, err := journal.Open(b[:max(0, min(length, len(b)))])
	if err != api.OK {
		left, _ = journal.New(log.Name()) // no error can be: it is a principal's name
	}
	return left
}
