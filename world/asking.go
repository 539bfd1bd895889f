package world

import (
	"hearsay/api"
	"hearsay/imply"
	"hearsay/syntax"
	"hearsay/term"
	"hearsay/why"
)

func (w *World) query(d api.Do) (api.Told, error) {
	p, err := w.partyOf(d.Who)
	if err != nil {
		return api.Told{}, err
	}
	reply, fault := p.context.Query(d.Text, d.N)
	return api.Told{Atoms: reply.Answers, Proofs: reply.Proofs, N: reply.Rounds}, refusedAt(fault)
}

func (w *World) ask(d api.Do) (api.Told, error) {
	p, err := w.partyOf(d.Who)
	if err != nil {
		return api.Told{}, err
	}
	answers, fault := p.context.Ask(d.Text)
	return api.Told{Atoms: answers}, refusedAt(fault)
}

func (w *World) watch(d api.Do) (api.Told, error) {
	p, err := w.partyOf(d.Who)
	if err != nil {
		return api.Told{}, err
	}
	number, fault := p.context.Watch(d.Text)
	return api.Told{N: number}, refusedAt(fault)
}

func (w *World) news(d api.Do) (api.Told, error) {
	p, err := w.partyOf(d.Who)
	if err != nil {
		return api.Told{}, err
	}
	change, untold := p.context.News(d.N)
	return api.Told{Atoms: change.Came, Gone: change.Gone}, refused(untold)
}

func (w *World) why(d api.Do) (api.Told, error) {
	p, err := w.partyOf(d.Who)
	if err != nil {
		return api.Told{}, err
	}
	asked, fault := syntax.Query(d.Text)
	if fault.Err != api.OK {
		return api.Told{}, refusedAt(fault)
	}
	if !term.Fact(asked) {
		return api.Told{}, refused(api.ErrFact)
	}
	support, unfounded := why.Support(p.context.Clauses(), asked)
	return api.Told{Clauses: support}, refused(unfounded)
}

func (w *World) loss(d api.Do) (api.Told, error) {
	p, err := w.partyOf(d.Who)
	if err != nil {
		return api.Told{}, err
	}
	if !principal(d.To) {
		return api.Told{}, refused(api.ErrPrincipal)
	}
	lost, unknown := why.Loss(p.context.Clauses(), d.To)
	return api.Told{Atoms: lost}, refused(unknown)
}

func (w *World) clauses(d api.Do) (api.Told, error) {
	p, err := w.partyOf(d.Who)
	if err != nil {
		return api.Told{}, err
	}
	return api.Told{Clauses: p.context.Clauses()}, nil
}

func (w *World) redundant(d api.Do) (api.Told, error) {
	p, err := w.partyOf(d.Who)
	if err != nil {
		return api.Told{}, err
	}
	implied, untold := imply.Redundant(p.context.Clauses())
	return api.Told{Clauses: implied}, refused(untold)
}
