package bundle_test

import (
	"cmp"
	"encoding/binary"
	"slices"
	"strings"

	"hearsay/api"
	"hearsay/cert"
	"hearsay/check"
	"hearsay/codec"
	"hearsay/eval"
	"hearsay/proof"
)

// Plain versions of the chapters' tables of bytes, by texts put one behind the other.

func number4(n int) string { return string(binary.BigEndian.AppendUint32(nil, uint32(n))) }
func number8(n int) string { return string(binary.BigEndian.AppendUint64(nil, uint64(n))) }

func textBytes(s string) string { return string([]byte{byte(len(s))}) + s }

func termBytes(t api.Term) string {
	switch t.Kind {
	case api.KindNum:
		return "\x01" + number8(t.N)
	case api.KindText:
		return "\x02" + textBytes(t.S)
	case api.KindVar:
		return "\x03" + number8(t.N)
	}
	return "\x00"
}

// joined: what one makes of each.
func joined[T any](l []T, one func(T) string) string {
	var out strings.Builder
	for _, x := range l {
		out.WriteString(one(x))
	}
	return out.String()
}

func shortList[T any](l []T, one func(T) string) string {
	return string([]byte{byte(len(l))}) + joined(l, one)
}

func longList[T any](l []T, one func(T) string) string { return number4(len(l)) + joined(l, one) }

func atomBytes(a api.Atom) string {
	return termBytes(a.By) + textBytes(a.Name) + shortList(a.Args, termBytes)
}

func testBytes(t api.Test) string {
	return string([]byte{byte(t.Op)}) + termBytes(t.L) + termBytes(t.R)
}

func clauseBytes(c api.Clause) string {
	return atomBytes(c.Head) + shortList(c.Body, atomBytes) + shortList(c.Tests, testBytes)
}

func stepBytes(s api.Step) string {
	return number8(s.Rule) + longList(s.Vals, termBytes) + longList(s.Uses, number8)
}

func proofBytes(p api.Proof) string {
	return longList(p.Rules, clauseBytes) + longList(p.Steps, stepBytes)
}

func partBytes(b string) string { return number4(len(b)) + b }

// plainWrite: the table's bytes, of whatever is given.
func plainWrite(x held) string {
	return "HSB1" + partBytes(atomBytes(x.goal)) + longList(x.certs, partBytes) + partBytes(proofBytes(x.p))
}

// plainPart: the part with which the bytes begin, and what is left behind it; false, if they don't begin with one.
func plainPart(b string) (string, string, bool) {
	if len(b) < 4 {
		return "", "", false
	}
	n := int(binary.BigEndian.Uint32([]byte(b)))
	if len(b) < 4+n {
		return "", "", false
	}
	return b[4 : 4+n], b[4+n:], true
}

// plainRead: by P21.2's words: whether there is something of which the table's bytes are these. What may stand in a part, chapter 6 says.
func plainRead(b string) (held, api.Errno) {
	if len(b) > 1048576 {
		return held{}, api.ErrBundleLong
	}
	var x held
	rest, begins := strings.CutPrefix(b, "HSB1")
	goal, rest, whole := plainPart(rest)
	if !begins || !whole || len(rest) < 4 {
		return held{}, api.ErrBundle
	}
	count := int(binary.BigEndian.Uint32([]byte(rest)))
	rest = rest[4:]
	for len(x.certs) < count {
		part, behind, whole := plainPart(rest)
		if !whole {
			return held{}, api.ErrBundle
		}
		x.certs, rest = append(x.certs, part), behind
	}
	derived, rest, whole := plainPart(rest)
	if !whole || rest != "" {
		return held{}, api.ErrBundle
	}
	var err, other api.Errno
	x.goal, err = codec.ReadAtom([]byte(goal))
	x.p, other = codec.ReadProof([]byte(derived))
	if err != api.OK || other != api.OK || plainWrite(x) != b {
		return held{}, api.ErrBundle
	}
	return x, api.OK
}

// quoted: by the word of DOC.md, 'Quoting'.
func quoted(u string, c api.Clause) api.Clause {
	out := c
	out.Head.By, out.Body = txt(u), slices.Clone(c.Body)
	for i, a := range out.Body {
		if a.By == none {
			out.Body[i].By = txt(u)
		}
	}
	return out
}

// quoteOf: what one holds who took the certificate, whoever made it.
func quoteOf(b string) api.Clause {
	c, _ := cert.Read([]byte(b))
	return quoted(c.Signer, c.Clause)
}

func quotes(certs []string) []api.Clause {
	var out []api.Clause
	for _, b := range certs {
		out = append(out, quoteOf(b))
	}
	return out
}

// plainOpen: the error of the first that isn't one of those issued on a ring on which nothing but certificates is signed.
func plainOpen(issued, certs []string) api.Errno {
	for _, b := range certs {
		if _, err := cert.Read([]byte(b)); err != api.OK {
			return err
		}
		if !slices.Contains(issued, b) {
			return api.ErrSeal
		}
	}
	return api.OK
}

func variable(t api.Term) bool { return t.Kind == api.KindVar }

// columns: the qualifier, then the arguments.
func columns(x api.Atom) []api.Term { return append([]api.Term{x.By}, x.Args...) }

// plainMake: P21.4 by its words, for a goal that is a valid atom.
func plainMake(issued []string, policy []api.Clause, certs []string, goal api.Atom, fuel int) (string, api.Errno) {
	if slices.ContainsFunc(columns(goal), variable) {
		return "", api.ErrFact
	}
	if err := plainOpen(issued, certs); err != api.OK {
		return "", err
	}
	m, err := eval.Run(slices.Concat(policy, quotes(certs)), fuel, 1)
	if err != api.OK {
		return "", err
	}
	p, err := proof.Prove(m, goal)
	if err != api.OK {
		return "", err
	}
	var needed []string
	for _, c := range p.Rules {
		if hasClause(policy, c) {
			continue
		}
		needed = append(needed, slices.Min(slices.DeleteFunc(slices.Clone(certs), func(b string) bool { return !sameClause(quoteOf(b), c) })))
	}
	slices.Sort(needed)
	b := plainWrite(held{goal, slices.Compact(needed), p})
	if len(b) > 1048576 {
		return "", api.ErrBundleLong
	}
	return b, api.OK
}

// plainShow: P21.5 by its words.
func plainShow(issued []string, policy []api.Clause, b string) (api.Atom, api.Errno) {
	x, err := plainRead(b)
	if err != api.OK {
		return api.Atom{}, err
	}
	if err := plainOpen(issued, x.certs); err != api.OK {
		return api.Atom{}, err
	}
	if err := check.Check(slices.Concat(policy, quotes(x.certs)), x.p, x.goal); err != api.OK {
		return api.Atom{}, err
	}
	return x.goal, api.OK
}

// The least model without the layers below: each clause tried on all facts, again and again, until nothing comes.

func compareTerms(x, y api.Term) int {
	return cmp.Or(cmp.Compare(x.Kind, y.Kind), cmp.Compare(x.N, y.N), strings.Compare(x.S, y.S))
}

func compareAtoms(x, y api.Atom) int {
	return cmp.Or(strings.Compare(x.Name, y.Name), cmp.Compare(len(x.Args), len(y.Args)), compareTerms(x.By, y.By), slices.CompareFunc(x.Args, y.Args, compareTerms))
}

// values: what variables stand for, by their numbers.
type values map[int]api.Term

func (s values) of(t api.Term) api.Term {
	if to, bound := s[t.N]; bound && variable(t) {
		return to
	}
	return t
}

func (s values) atom(x api.Atom) api.Atom {
	l := columns(x)
	for i := range l {
		l[i] = s.of(l[i])
	}
	return api.Atom{By: l[0], Name: x.Name, Args: l[1:]}
}

func (s values) holds(t api.Test) bool {
	d := compareTerms(s.of(t.L), s.of(t.R))
	return t.Op == api.OpEq && d == 0 || t.Op == api.OpNe && d != 0 || t.Op == api.OpLt && d < 0 || t.Op == api.OpLe && d <= 0
}

// to: these values and those with which the pattern becomes the fact; false, if there are none.
func (s values) to(pattern, f api.Atom) (values, bool) {
	if pattern.Name != f.Name || len(pattern.Args) != len(f.Args) || variable(pattern.By) && f.By == none {
		return nil, false
	}
	out := values{}
	for n, t := range s {
		out[n] = t
	}
	become := columns(f)
	for i, t := range columns(pattern) {
		if variable(t) && out.of(t) == t {
			out[t.N] = become[i]
		}
		if out.of(t) != become[i] {
			return nil, false
		}
	}
	return out, true
}

// heads: what a clause gives over these facts.
func heads(c api.Clause, facts []api.Atom) []api.Atom {
	ways := []values{{}}
	for _, x := range c.Body {
		var on []values
		for _, s := range ways {
			for _, f := range facts {
				if more, matches := s.to(x, f); matches {
					on = append(on, more)
				}
			}
		}
		ways = on
	}
	var out []api.Atom
	for _, s := range ways {
		if !slices.ContainsFunc(c.Tests, func(t api.Test) bool { return !s.holds(t) }) {
			out = append(out, s.atom(c.Head))
		}
	}
	return out
}

// plainModel: the facts of the least model of valid clauses, in order.
func plainModel(cs []api.Clause) []api.Atom {
	var facts []api.Atom
	for {
		found := slices.Clone(facts)
		for _, c := range cs {
			found = append(found, heads(c, facts)...)
		}
		slices.SortFunc(found, compareAtoms)
		found = slices.CompactFunc(found, sameAtom)
		if len(found) == len(facts) {
			return facts
		}
		facts = found
	}
}
