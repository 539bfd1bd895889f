package syntax_test

import (
	"math/big"
	"slices"
	"strconv"

	"hearsay/api"
	"hearsay/clause"
	"hearsay/term"
)

// What a text says, read plainly: whether it is of the grammar, by all stacks of symbols that could still be ahead; what it stands for, by cutting it at its signs.

// Symbols that aren't tokens. litOpen and litShut are the brackets of a lit.
const (
	symRule = 100 + iota
	symIfs
	symAlt
	symAlts
	symConj
	symConjs
	symLit
	symAtom
	symBy
	symArgs
	symTerms
	symWho
	symTerm
	symOp
	symQuery
	litOpen
	litShut
)

// grammar: the chapter's, with a symbol more for each "x .." and [x].
var grammar = map[int][][]int{
	symRule:  {{symAtom, symIfs, api.TokDot}},
	symIfs:   {{}, {api.TokIf, symAlt}},
	symAlt:   {{symConj, symAlts}},
	symAlts:  {{}, {api.TokSemi, symConj, symAlts}},
	symConj:  {{symLit, symConjs}},
	symConjs: {{}, {api.TokComma, symLit, symConjs}},
	symLit:   {{litOpen, symAlt, litShut}, {symAtom}, {symTerm, symOp, symTerm}},
	symAtom:  {{symBy, api.TokWord, symArgs}},
	symBy:    {{}, {symWho, api.TokSays}},
	symArgs:  {{}, {api.TokOpen, symTerm, symTerms, api.TokShut}},
	symTerms: {{}, {api.TokComma, symTerm, symTerms}},
	symWho:   {{api.TokWord}, {api.TokText}, {api.TokVar}},
	symTerm:  {{api.TokWord}, {api.TokText}, {api.TokNum}, {api.TokVar}},
	symOp:    {{api.TokEq}, {api.TokNe}, {api.TokLt}, {api.TokLe}},
	symQuery: {{symAtom, api.TokAsk}},
}

// stack: what must still come, the next one last; and the brackets that are open.
type stack struct {
	ahead []int
	open  int
}

// unfolded: the stacks that begin with a token, or are empty.
func unfolded(s stack) []stack {
	if len(s.ahead) == 0 {
		return []stack{s}
	}
	last := len(s.ahead) - 1
	ways, ok := grammar[s.ahead[last]]
	if !ok {
		return []stack{s}
	}
	var out []stack
	for _, way := range ways {
		ahead := slices.Clone(s.ahead[:last])
		for _, symbol := range slices.Backward(way) {
			ahead = append(ahead, symbol)
		}
		out = append(out, unfolded(stack{ahead, s.open})...)
	}
	return out
}

// stepped: the stacks that are left behind a token, and whether it opened a bracket too many.
func stepped(stacks []stack, kind int) ([]stack, bool) {
	var out []stack
	deep := false
	for _, s := range stacks {
		for _, u := range unfolded(s) {
			if len(u.ahead) == 0 {
				continue
			}
			last := len(u.ahead) - 1
			rest := stack{u.ahead[:last], u.open}
			switch u.ahead[last] {
			case litOpen:
				if kind == api.TokOpen {
					deep = deep || rest.open == 16
					rest.open++
					out = append(out, rest)
				}
			case litShut:
				if kind == api.TokShut {
					rest.open--
					out = append(out, rest)
				}
			case kind:
				out = append(out, rest)
			}
		}
	}
	return out, deep
}

func mayEnd(stacks []stack) bool {
	for _, s := range stacks {
		if slices.ContainsFunc(unfolded(s), func(u stack) bool { return len(u.ahead) == 0 }) {
			return true
		}
	}
	return false
}

// plainSyntax: the fault of tokens that should be one of this symbol; length is the place of their end.
func plainSyntax(symbol int, l []api.Token, length int) api.Fault {
	stacks := []stack{{ahead: []int{symbol}}}
	for _, t := range l {
		var deep bool
		if stacks, deep = stepped(stacks, t.Kind); deep {
			return fault(api.ErrDepth, t.At)
		}
		if len(stacks) == 0 {
			return fault(api.ErrSyntax, t.At)
		}
	}
	if !mayEnd(stacks) {
		return fault(api.ErrSyntax, length)
	}
	return api.Fault{}
}

// split: the tokens between the signs of this kind that stand in no bracket.
func split(l []api.Token, kind int) [][]api.Token {
	var out [][]api.Token
	depth, from := 0, 0
	for i, t := range l {
		switch {
		case t.Kind == api.TokOpen:
			depth++
		case t.Kind == api.TokShut:
			depth--
		case t.Kind == kind && depth == 0:
			out = append(out, l[from:i])
			from = i + 1
		}
	}
	return append(out, l[from:])
}

func isOperator(t api.Token) bool { return t.Kind >= api.TokEq && t.Kind <= api.TokLe }

// plainCount: of the alternatives of an alt.
func plainCount(l []api.Token) *big.Int {
	sum := new(big.Int)
	for _, conj := range split(l, api.TokSemi) {
		product := big.NewInt(1)
		for _, lit := range split(conj, api.TokComma) {
			if lit[0].Kind == api.TokOpen {
				product.Mul(product, plainCount(lit[1:len(lit)-1]))
			}
		}
		sum.Add(sum, product)
	}
	return sum
}

// plainAlts: the alternatives of an alt, each a list of atoms and tests as they are written.
func plainAlts(l []api.Token) [][][]api.Token {
	var out [][][]api.Token
	for _, conj := range split(l, api.TokSemi) {
		rows := [][][]api.Token{nil}
		for _, lit := range split(conj, api.TokComma) {
			choices := [][][]api.Token{{lit}}
			if lit[0].Kind == api.TokOpen {
				choices = plainAlts(lit[1 : len(lit)-1])
			}
			var longer [][][]api.Token
			for _, row := range rows {
				for _, choice := range choices {
					longer = append(longer, slices.Concat(row, choice))
				}
			}
			rows = longer
		}
		out = append(out, rows...)
	}
	return out
}

// numbering: the variables' numbers by their names; _ has its place in the text as its name.
type numbering map[string]int

func (n numbering) term(t api.Token) api.Term {
	switch t.Kind {
	case api.TokNum:
		return num(t.N)
	case api.TokVar:
		name := t.Text
		if name == "_" {
			name = "_ at " + strconv.Itoa(t.At)
		}
		if _, ok := n[name]; !ok {
			n[name] = len(n)
		}
		return v(n[name])
	}
	return txt(t.Text)
}

func (n numbering) atom(l []api.Token) api.Atom {
	var a api.Atom
	if len(l) > 1 && l[1].Kind == api.TokSays {
		a.By = n.term(l[0])
		l = l[2:]
	}
	a.Name = l[0].Text
	for _, t := range l[1:] {
		if t.Kind <= api.TokNum {
			a.Args = append(a.Args, n.term(t))
		}
	}
	return a
}

func (n numbering) clause(head []api.Token, body [][]api.Token) api.Clause {
	c := api.Clause{Head: n.atom(head)}
	for _, lit := range body {
		if !slices.ContainsFunc(lit, isOperator) {
			c.Body = append(c.Body, n.atom(lit))
		}
	}
	for _, lit := range body {
		if slices.ContainsFunc(lit, isOperator) {
			l := n.term(lit[0])
			c.Tests = append(c.Tests, test(lit[1].Kind-api.TokEq+api.OpEq, l, n.term(lit[2])))
		}
	}
	return c
}

// plainRule: what a rule of the grammar stands for.
func plainRule(l []api.Token) ([]api.Clause, api.Fault) {
	at := l[0].At
	l = l[:len(l)-1]
	bodies := [][][]api.Token{nil}
	head := l
	if i := slices.IndexFunc(l, func(t api.Token) bool { return t.Kind == api.TokIf }); i >= 0 {
		head = l[:i]
		if plainCount(l[i+1:]).Cmp(big.NewInt(64)) > 0 {
			return nil, fault(api.ErrAlts, at)
		}
		bodies = plainAlts(l[i+1:])
	}
	var out []api.Clause
	for _, body := range bodies {
		c := numbering{}.clause(head, body)
		if err := clause.Check(c); err != api.OK {
			return nil, fault(err, at)
		}
		out = append(out, c)
	}
	return out, api.Fault{}
}

// plainProgram: a full stop ends a rule and stands nowhere else.
func plainProgram(l []api.Token, length int) ([]api.Clause, api.Fault) {
	var out []api.Clause
	for len(l) > 0 {
		end := 1 + slices.IndexFunc(l, func(t api.Token) bool { return t.Kind == api.TokDot })
		if end == 0 {
			end = len(l)
		}
		if f := plainSyntax(symRule, l[:end], length); f.Err != api.OK {
			return nil, f
		}
		cs, f := plainRule(l[:end])
		if f.Err != api.OK {
			return nil, f
		}
		out = append(out, cs...)
		l = l[end:]
	}
	return out, api.Fault{}
}

func plainQuery(l []api.Token, length int) (api.Atom, api.Fault) {
	if f := plainSyntax(symQuery, l, length); f.Err != api.OK {
		return api.Atom{}, f
	}
	a := numbering{}.atom(l[:len(l)-1])
	if err := term.CheckAtom(a); err != api.OK {
		return api.Atom{}, fault(err, l[0].At)
	}
	return a, api.Fault{}
}
