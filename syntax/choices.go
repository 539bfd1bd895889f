package syntax

import "hearsay/api"

// tooMany: stands for every count above MaxAlts. What has too many inside has too many itself, so that none of them need be told from another.
const tooMany = api.MaxAlts + 1

// alt: a choice between its conjs; count is the number of its alternatives.
type alt struct {
	conjs []conj
	count int
}

// conj: all of its lits; count is the number of its alternatives.
type conj struct {
	lits  []lit
	count int
}

// Kinds of lits.
const (
	isAtom = iota
	isTest
	isBracket
)

// lit: the field that its kind names is what it is.
type lit struct {
	kind  int
	atom  api.Atom
	test  api.Test
	inner alt
}

func altOf(conjs []conj) alt {
	count := 0
	for _, c := range conjs {
		count = min(count+c.count, tooMany)
	}
	return alt{conjs, count}
}

func conjOf(lits []lit) conj {
	count := 1
	for _, l := range lits {
		count = min(count*l.count(), tooMany)
	}
	return conj{lits, count}
}

func (l lit) count() int {
	if l.kind == isBracket {
		return l.inner.count
	}
	return 1
}

// lay: puts the alternative number n behind what c has. It is asked only where there aren't too many: all counts are what they say.
func (a alt) lay(n int, c *api.Clause) {
	for _, k := range a.conjs {
		if n < k.count {
			k.lay(n, c)
			return
		}
		n -= k.count
	}
}

// lay: the choices are n's digits, the first lit's the greatest, as it varies slowest.
func (k conj) lay(n int, c *api.Clause) {
	behind := k.count
	for _, l := range k.lits {
		behind /= l.count()
		l.lay(n/behind, c)
		n %= behind
	}
}

func (l lit) lay(n int, c *api.Clause) {
	switch l.kind {
	case isAtom:
		c.Body = append(c.Body, l.atom)
	case isTest:
		c.Tests = append(c.Tests, l.test)
	case isBracket:
		l.inner.lay(n, c)
	}
}
