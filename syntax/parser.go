package syntax

import (
	"slices"

	"hearsay/api"
	"hearsay/term"
)

// parser: goes through a text's tokens. Where one can't stand it gives up by a panic with the fault, so that those who call it needn't ask for one at every step.
type parser struct {
	tokens []api.Token
	next   int            // the first token that isn't taken yet
	length int            // of the text: the place of a fault where it ends too early
	open   int            // how many brackets
	names  map[string]int // the variables of this rule or query by their names
	vars   int            // how many there are, with those that _ stands for
}

func giveUp(err api.Errno, at int) { panic(api.Fault{Err: err, At: at}) }

// kind: of the token that stands so many behind the next one; 0, which no kind is, behind the last.
func (p *parser) kind(ahead int) int {
	if p.next+ahead >= len(p.tokens) {
		return 0
	}
	return p.tokens[p.next+ahead].Kind
}

func (p *parser) place() int {
	if p.next == len(p.tokens) {
		return p.length
	}
	return p.tokens[p.next].At
}

// take: the next token, which must be of one of these kinds.
func (p *parser) take(kinds ...int) api.Token {
	if !slices.Contains(kinds, p.kind(0)) {
		giveUp(api.ErrSyntax, p.place())
	}
	t := p.tokens[p.next]
	p.next++
	return t
}

// listOf: as many as there are signs between, and one more.
func listOf[T any](p *parser, one func() T, between int) []T {
	out := []T{one()}
	for p.kind(0) == between {
		p.take(between)
		out = append(out, one())
	}
	return out
}

// begin: from here on names are other variables than before. Answers the place of the first token.
func (p *parser) begin() int {
	p.names = map[string]int{}
	p.vars = 0
	return p.place()
}

func (p *parser) query() api.Atom {
	at := p.begin()
	a := p.atom()
	p.take(api.TokAsk)
	if p.next < len(p.tokens) {
		giveUp(api.ErrSyntax, p.place())
	}
	if err := term.CheckAtom(a); err != api.OK {
		giveUp(err, at)
	}
	return a
}

func (p *parser) atom() api.Atom {
	by := p.by()
	name := p.take(api.TokWord).Text
	return api.Atom{By: by, Name: name, Args: p.args()}
}

// by: a word is who says it just if says stands behind it; else it is the name, and nobody says it.
func (p *parser) by() api.Term {
	if p.kind(0) == api.TokWord && p.kind(1) != api.TokSays {
		return api.Term{}
	}
	who := p.who()
	p.take(api.TokSays)
	return who
}

func (p *parser) args() []api.Term {
	if p.kind(0) != api.TokOpen {
		return nil
	}
	p.take(api.TokOpen)
	l := listOf(p, p.term, api.TokComma)
	p.take(api.TokShut)
	return l
}

func (p *parser) who() api.Term {
	return p.meaning(p.take(api.TokWord, api.TokText, api.TokVar))
}

func (p *parser) term() api.Term {
	return p.meaning(p.take(api.TokWord, api.TokText, api.TokVar, api.TokNum))
}

func (p *parser) meaning(t api.Token) api.Term {
	switch t.Kind {
	case api.TokVar:
		return api.Term{Kind: api.KindVar, N: p.variable(t.Text)}
	case api.TokNum:
		return api.Term{Kind: api.KindNum, N: t.N}
	}
	return api.Term{Kind: api.KindText, S: t.Text}
}

// variable: its number: the next one for a new name, and for _ each time.
func (p *parser) variable(name string) int {
	if n, ok := p.names[name]; ok && name != "_" {
		return n
	}
	n := p.vars
	p.names[name] = n
	p.vars++
	return n
}
