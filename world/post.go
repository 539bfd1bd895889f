package world

import (
	"hearsay/api"
	"hearsay/bundle"
	"hearsay/cert"
	"hearsay/syntax"
)

// sender: who must have a context, and the wire a number left: asked ahead of all that a step makes to be sent, as what is signed stays signed. ErrNoContext, ErrWireFull.
func (w *World) sender(who string) (*party, error) {
	p, err := w.partyOf(who)
	if err == nil && w.last >= api.MaxMessages {
		return nil, refused(api.ErrWireFull)
	}
	return p, err
}

// numbered: what the wire answers to one who wants a new message: its number.
func (w *World) numbered(n int, err api.Errno) (api.Told, error) {
	if err != api.OK {
		return api.Told{}, refused(err)
	}
	w.last = n
	return api.Told{N: n}, nil
}

func (w *World) export(d api.Do) (api.Told, error) {
	p, err := w.sender(d.Who)
	if err != nil {
		return api.Told{}, err
	}
	b, fault := p.context.Export(d.Text, d.N)
	if fault.Err != api.OK {
		return api.Told{}, refusedAt(fault)
	}
	told, err := w.numbered(w.wire.Send(b))
	told.Id = cert.Id(b)
	return told, err
}

// take: an import. The message goes when its certificate is taken, or was before; else it stays.
func (w *World) take(d api.Do) (api.Told, error) {
	p, err := w.partyOf(d.Who)
	if err != nil {
		return api.Told{}, err
	}
	b, missing := w.wire.Look(d.N)
	if missing != api.OK {
		return api.Told{}, refused(missing)
	}
	came, unopened := p.context.Import(b)
	if unopened != api.OK {
		return api.Told{}, refused(unopened)
	}
	w.wire.Drop(d.N)
	told := api.Told{Id: cert.Id(b)}
	if came {
		told.N = 1
		p.note(api.Record{Kind: api.RecTake, Bytes: b})
	}
	return told, nil
}

func (w *World) prove(d api.Do) (api.Told, error) {
	p, err := w.sender(d.Who)
	if err != nil {
		return api.Told{}, err
	}
	claim, fault := syntax.Query(d.Text)
	if fault.Err != api.OK {
		return api.Told{}, refusedAt(fault)
	}
	b, unproved := bundle.Make(w.ring, p.context.Own(), p.context.Certs(), claim, d.N)
	if unproved != api.OK {
		return api.Told{}, refused(unproved)
	}
	return w.numbered(w.wire.Send(b))
}

func (w *World) show(d api.Do) (api.Told, error) {
	p, err := w.partyOf(d.Who)
	if err != nil {
		return api.Told{}, err
	}
	b, missing := w.wire.Look(d.N)
	if missing != api.OK {
		return api.Told{}, refused(missing)
	}
	shown, unproved := bundle.Show(w.ring, p.context.Clauses(), b)
	return api.Told{Atoms: []api.Atom{shown}}, refused(unproved)
}

func (w *World) drop(d api.Do) (api.Told, error) {
	return api.Told{}, refused(w.wire.Drop(d.N))
}

func (w *World) copied(d api.Do) (api.Told, error) { return w.numbered(w.wire.Copy(d.N)) }

func (w *World) swap(d api.Do) (api.Told, error) {
	return api.Told{}, refused(w.wire.Swap(d.N, d.M))
}

func (w *World) flip(d api.Do) (api.Told, error) {
	return api.Told{}, refused(w.wire.Flip(d.N, d.M, d.K))
}

func (w *World) cut(d api.Do) (api.Told, error) {
	return api.Told{}, refused(w.wire.Cut(d.N, d.M))
}

func (w *World) forge(d api.Do) (api.Told, error) { return w.numbered(w.wire.Send(d.Bytes)) }

func (w *World) waiting(api.Do) (api.Told, error) {
	var numbers []int
	for _, m := range w.wire.Waiting() {
		numbers = append(numbers, m.N)
	}
	return api.Told{Nums: numbers}, nil
}
