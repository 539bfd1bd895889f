package context_test

import (
	"cmp"
	"slices"
	"strings"

	"hearsay/api"
	"hearsay/cert"
	"hearsay/clause"
	"hearsay/eval"
	"hearsay/goal"
	"hearsay/proof"
	"hearsay/syntax"
)

// What follows is chapter 20 by its words: sets are lists, and whatever is asked is worked out anew, by the calls that the promises name.

func compareTerms(x, y api.Term) int {
	return cmp.Or(cmp.Compare(x.Kind, y.Kind), cmp.Compare(x.N, y.N), strings.Compare(x.S, y.S))
}

func compareAtoms(x, y api.Atom) int {
	return cmp.Or(strings.Compare(x.Name, y.Name), cmp.Compare(len(x.Args), len(y.Args)), compareTerms(x.By, y.By), slices.CompareFunc(x.Args, y.Args, compareTerms))
}

func compareTests(x, y api.Test) int {
	return cmp.Or(cmp.Compare(x.Op, y.Op), compareTerms(x.L, y.L), compareTerms(x.R, y.R))
}

func compareClauses(x, y api.Clause) int {
	return cmp.Or(compareAtoms(x.Head, y.Head), cmp.Compare(len(x.Body), len(y.Body)), slices.CompareFunc(x.Body, y.Body, compareAtoms), cmp.Compare(len(x.Tests), len(y.Tests)), slices.CompareFunc(x.Tests, y.Tests, compareTests))
}

// setOf: a copy of the list, sorted, none twice.
func setOf(cs []api.Clause) []api.Clause {
	out := slices.Clone(cs)
	slices.SortFunc(out, compareClauses)
	return slices.CompactFunc(out, sameClause)
}

// quoted: by the word of DOC.md, 'Quoting'.
func quoted(u string, c api.Clause) api.Clause {
	out := c
	out.Head.By, out.Body = txt(u), slices.Clone(c.Body)
	for i, a := range out.Body {
		if a.By == none {
			out.Body[i].By = txt(u)
		}
	}
	return out
}

// plainRing: the certificates that were issued on it, each once.
type plainRing struct {
	secret string
	names  []string
	issued []string
}

// open: chapter 19's Open, on a ring on which nothing but certificates is signed.
func (r *plainRing) open(b string) (api.Cert, api.Errno) {
	c, err := cert.Read([]byte(b))
	if err == api.OK && !slices.Contains(r.issued, b) {
		return api.Cert{}, api.ErrSeal
	}
	return c, err
}

// signed: as the helper of this name tells a ring.
func (r *plainRing) signed(name string) []api.Digest {
	var l []api.Digest
	for _, b := range r.issued {
		if c, _ := cert.Read([]byte(b)); c.Signer == name {
			l = append(l, sum(bodyOf(b)))
		}
	}
	slices.SortFunc(l, compareDigests)
	return l
}

type plainWatch struct {
	query api.Atom
	mark  []api.Atom
}

type plain struct {
	ring    *plainRing
	name    string
	own     []api.Clause // in order
	certs   []string     // as they came
	watches []plainWatch
}

func (p *plain) clauses() []api.Clause {
	all := slices.Clone(p.own)
	for _, b := range p.certs {
		c, _ := cert.Read([]byte(b))
		all = append(all, quoted(c.Signer, c.Clause))
	}
	return setOf(all)
}

func (p *plain) certificates() []string {
	out := slices.Clone(p.certs)
	slices.SortFunc(out, func(x, y string) int { return compareDigests(sum(x), sum(y)) })
	return out
}

func (p *plain) assert(text string) (int, api.Fault) {
	said, f := syntax.Program(text)
	before := len(p.own)
	p.own = setOf(append(slices.Clone(p.own), said...))
	return len(p.own) - before, f
}

func (p *plain) retract(text string) (int, api.Fault) {
	said, f := syntax.Program(text)
	if f != ok {
		return 0, f
	}
	for _, c := range said {
		if !hasClause(p.own, c) {
			return 0, api.Fault{Err: api.ErrNotOwn}
		}
	}
	p.own = slices.DeleteFunc(slices.Clone(p.own), func(c api.Clause) bool { return hasClause(said, c) })
	return len(setOf(said)), ok
}

func (p *plain) take(b string) (bool, api.Errno) {
	_, err := p.ring.open(b)
	if err != api.OK || slices.Contains(p.certs, b) {
		return false, err
	}
	p.certs = append(p.certs, b)
	return true, api.OK
}

func (p *plain) forget(id api.Digest) api.Errno {
	left := slices.DeleteFunc(slices.Clone(p.certs), func(b string) bool { return sum(b) == id })
	if len(left) == len(p.certs) {
		return api.ErrNoCert
	}
	p.certs = left
	return api.OK
}

func (p *plain) export(text string, fuel int) (string, api.Fault) {
	c, f := syntax.Clause(text)
	if f != ok {
		return "", f
	}
	if c.Head.By != none {
		return "", api.Fault{Err: api.ErrQualified}
	}
	if !hasClause(p.own, c) {
		if len(c.Body)+len(c.Tests) > 0 {
			return "", api.Fault{Err: api.ErrNotHeld}
		}
		m, err := eval.Run(p.clauses(), fuel, 1)
		if err != api.OK {
			return "", api.Fault{Err: err}
		}
		if !slices.ContainsFunc(m.Facts, func(k api.Known) bool { return sameAtom(k.Fact, c.Head) }) {
			return "", api.Fault{Err: api.ErrNotHeld}
		}
	}
	body, _ := cert.Body(p.name, c)
	b := sealed(p.ring.secret, p.name, string(body))
	if !slices.Contains(p.ring.issued, b) {
		p.ring.issued = append(p.ring.issued, b)
	}
	return b, ok
}

func (p *plain) query(text string, fuel int) (api.Reply, api.Fault) {
	q, f := syntax.Query(text)
	if f != ok {
		return api.Reply{}, f
	}
	m, err := eval.Run(p.clauses(), fuel, 1)
	if err != api.OK {
		return api.Reply{}, api.Fault{Err: err}
	}
	out := api.Reply{Answers: eval.Answers(m, q), Rounds: m.Rounds}
	for _, a := range out.Answers {
		d, _ := proof.Prove(m, a)
		out.Proofs = append(out.Proofs, d)
	}
	return out, ok
}

func (p *plain) ask(text string) ([]api.Atom, api.Fault) {
	q, f := syntax.Query(text)
	if f != ok {
		return nil, f
	}
	l, err := goal.Ask(p.clauses(), q)
	return l, api.Fault{Err: err}
}

func (p *plain) watch(text string) (int, api.Fault) {
	q, f := syntax.Query(text)
	if f != ok {
		return 0, f
	}
	m, err := eval.Whole(p.clauses())
	if err != api.OK {
		return 0, api.Fault{Err: err}
	}
	if len(p.watches) == 64 {
		return 0, api.Fault{Err: api.ErrWatch}
	}
	p.watches = append(p.watches, plainWatch{q, eval.Answers(m, q)})
	return len(p.watches), ok
}

func (p *plain) news(w int) (api.Change, api.Errno) {
	if w < 1 || w > len(p.watches) {
		return api.Change{}, api.ErrWatch
	}
	m, err := eval.Whole(p.clauses())
	if err != api.OK {
		return api.Change{}, err
	}
	now, before := eval.Answers(m, p.watches[w-1].query), p.watches[w-1].mark
	p.watches[w-1].mark = now
	return api.Change{Came: less(now, before), Gone: less(before, now)}, api.OK
}

// less: those of a list that another one hasn't.
func less(l, others []api.Atom) []api.Atom {
	return slices.DeleteFunc(slices.Clone(l), func(x api.Atom) bool { return hasAtom(others, x) })
}

func (p *plain) play(r api.Record) api.Errno {
	noClause, noBytes, noId := sameClause(r.Clause, api.Clause{}), len(r.Bytes) == 0, r.Id == api.Digest{}
	switch {
	case r.Kind == api.RecAssert && noBytes && noId && clause.Check(r.Clause) == api.OK && !hasClause(p.own, r.Clause):
		p.own = setOf(append(slices.Clone(p.own), r.Clause))
		return api.OK
	case r.Kind == api.RecRetract && noBytes && noId && hasClause(p.own, r.Clause):
		p.own = slices.DeleteFunc(slices.Clone(p.own), func(c api.Clause) bool { return sameClause(c, r.Clause) })
		return api.OK
	case r.Kind == api.RecTake && noClause && noId:
		if came, err := p.take(string(r.Bytes)); came && err == api.OK {
			return api.OK
		}
	case r.Kind == api.RecForget && noClause && noBytes && p.forget(r.Id) == api.OK:
		return api.OK
	}
	return api.ErrReplay
}

// The least model without the layers below: each clause tried on all facts, again and again, until nothing comes.

func variable(t api.Term) bool { return t.Kind == api.KindVar }

// columns: the qualifier, then the arguments.
func columns(x api.Atom) []api.Term { return append([]api.Term{x.By}, x.Args...) }

// values: what variables stand for, by their numbers.
type values map[int]api.Term

func (s values) of(t api.Term) api.Term {
	if to, bound := s[t.N]; bound && variable(t) {
		return to
	}
	return t
}

func (s values) atom(x api.Atom) api.Atom {
	l := columns(x)
	for i := range l {
		l[i] = s.of(l[i])
	}
	return api.Atom{By: l[0], Name: x.Name, Args: l[1:]}
}

func (s values) holds(t api.Test) bool {
	d := compareTerms(s.of(t.L), s.of(t.R))
	return t.Op == api.OpEq && d == 0 || t.Op == api.OpNe && d != 0 || t.Op == api.OpLt && d < 0 || t.Op == api.OpLe && d <= 0
}

// to: these values and those with which the pattern becomes the fact; false, if there are none.
func (s values) to(pattern, f api.Atom) (values, bool) {
	if pattern.Name != f.Name || len(pattern.Args) != len(f.Args) || variable(pattern.By) && f.By == none {
		return nil, false
	}
	out := values{}
	for n, t := range s {
		out[n] = t
	}
	become := columns(f)
	for i, t := range columns(pattern) {
		if variable(t) && out.of(t) == t {
			out[t.N] = become[i]
		}
		if out.of(t) != become[i] {
			return nil, false
		}
	}
	return out, true
}

// plainAnswers: the facts that the atom matches.
func plainAnswers(facts []api.Atom, asked api.Atom) []api.Atom {
	return slices.DeleteFunc(slices.Clone(facts), func(f api.Atom) bool {
		_, matches := (values{}).to(asked, f)
		return !matches
	})
}

// heads: what a clause gives over these facts.
func heads(c api.Clause, facts []api.Atom) []api.Atom {
	ways := []values{{}}
	for _, x := range c.Body {
		var on []values
		for _, s := range ways {
			for _, f := range facts {
				if more, matches := s.to(x, f); matches {
					on = append(on, more)
				}
			}
		}
		ways = on
	}
	var out []api.Atom
	for _, s := range ways {
		if !slices.ContainsFunc(c.Tests, func(t api.Test) bool { return !s.holds(t) }) {
			out = append(out, s.atom(c.Head))
		}
	}
	return out
}

// plainModel: the facts of the least model, in order, and how many rounds there are.
func plainModel(cs []api.Clause) ([]api.Atom, int) {
	var facts []api.Atom
	for round := 1; ; round++ {
		found := slices.Clone(facts)
		for _, c := range cs {
			found = append(found, heads(c, facts)...)
		}
		slices.SortFunc(found, compareAtoms)
		found = slices.CompactFunc(found, sameAtom)
		if len(found) == len(facts) {
			return facts, round
		}
		facts = found
	}
}
