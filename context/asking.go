package context

import (
	"hearsay/api"
	"hearsay/cert"
	"hearsay/eval"
	"hearsay/goal"
	"hearsay/proof"
	"hearsay/syntax"
)

func (c *core) export(text string, fuel int) ([]byte, error) {
	said, fault := syntax.Clause(text)
	if fault.Err != api.OK {
		return nil, refusedAt(fault)
	}
	if err := c.holds(said, fuel); err != nil {
		return nil, err
	}
	b, err := cert.Issue(c.ring, c.name, said)
	return b, refused(err)
}

// holds: nil, if the context's principal can say the clause: an own one, or a fact that follows within the fuel. ErrQualified, ErrNotHeld, Run's errors.
func (c *core) holds(said api.Clause, fuel int) error {
	switch {
	case said.Head.By != api.Term{}:
		return refused(api.ErrQualified)
	case c.owns(said):
		return nil
	case len(said.Body) > 0 || len(said.Tests) > 0:
		return refused(api.ErrNotHeld)
	}
	m, err := c.model(fuel)
	if err != nil {
		return err
	}
	if len(eval.Answers(m, said.Head)) == 0 {
		return refused(api.ErrNotHeld)
	}
	return nil
}

func (c *core) query(text string, fuel int) (api.Reply, error) {
	asked, fault := syntax.Query(text)
	if fault.Err != api.OK {
		return api.Reply{}, refusedAt(fault)
	}
	m, err := c.model(fuel)
	if err != nil {
		return api.Reply{}, err
	}
	answers := eval.Answers(m, asked)
	return api.Reply{Answers: answers, Proofs: proofs(m, answers), Rounds: m.Rounds}, nil
}

// proofs: a derivation of each fact of the model.
func proofs(m api.Model, facts []api.Atom) []api.Proof {
	all := make([]api.Proof, len(facts))
	for i, f := range facts {
		all[i], _ = proof.Prove(m, f) // no error can be: a least model holds together
	}
	return all
}

func (c *core) ask(text string) ([]api.Atom, error) {
	asked, fault := syntax.Query(text)
	if fault.Err != api.OK {
		return nil, refusedAt(fault)
	}
	answers, err := goal.Ask(c.clauses(), asked)
	return answers, refused(err)
}
