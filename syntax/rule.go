package syntax

import (
	"hearsay/api"
	"hearsay/clause"
)

func (p *parser) program() []api.Clause {
	var out []api.Clause
	for p.next < len(p.tokens) {
		out = append(out, p.rule()...)
	}
	return out
}

// rule: the clauses that it stands for.
func (p *parser) rule() []api.Clause {
	at := p.begin()
	head := p.atom()
	body := p.body()
	p.take(api.TokDot)
	if body.count > api.MaxAlts {
		giveUp(api.ErrAlts, at)
	}
	var out []api.Clause
	for n := range body.count {
		c := clauseOf(head, body, n)
		if err := clause.Check(c); err != api.OK {
			giveUp(err, at)
		}
		out = append(out, c)
	}
	return out
}

// clauseOf: Normal copies what it is given, so that alternatives don't share the lists of the atoms that they have in common.
func clauseOf(head api.Atom, body alt, n int) api.Clause {
	c := api.Clause{Head: head}
	body.lay(n, &c)
	return clause.Normal(c)
}

func (p *parser) body() alt {
	if p.kind(0) != api.TokIf {
		return altOf([]conj{conjOf(nil)})
	}
	p.take(api.TokIf)
	return p.alt()
}

func (p *parser) alt() alt { return altOf(listOf(p, p.conj, api.TokSemi)) }

func (p *parser) conj() conj { return conjOf(listOf(p, p.lit, api.TokComma)) }

func (p *parser) lit() lit {
	switch {
	case p.kind(0) == api.TokOpen:
		return lit{kind: isBracket, inner: p.bracket()}
	case p.beginsAtom():
		return lit{kind: isAtom, atom: p.atom()}
	}
	return lit{kind: isTest, test: p.test()}
}

// beginsAtom: a word, a quoted text or a variable may begin an atom or a test; the token behind it decides.
func (p *parser) beginsAtom() bool {
	switch p.kind(0) {
	case api.TokWord:
		return operatorOf(p.kind(1)) == 0
	case api.TokText, api.TokVar:
		return p.kind(1) == api.TokSays
	}
	return false
}

func (p *parser) bracket() alt {
	if p.open == api.MaxDepth {
		giveUp(api.ErrDepth, p.place())
	}
	p.take(api.TokOpen)
	p.open++
	inner := p.alt()
	p.take(api.TokShut)
	p.open--
	return inner
}

func (p *parser) test() api.Test {
	l := p.term()
	op := p.take(api.TokEq, api.TokNe, api.TokLt, api.TokLe)
	return api.Test{Op: operatorOf(op.Kind), L: l, R: p.term()}
}
