package bundle_test

import (
	"math/rand"
	"slices"
	"strings"

	"hearsay/api"
	"hearsay/clause"
	"hearsay/term"
)

// chosen: things by chance, the same ones at every run.
type chosen struct{ *rand.Rand }

func newChosen(seed int64) *chosen { return &chosen{rand.New(rand.NewSource(seed))} }

func one[T any](c *chosen, of ...T) T { return of[c.Intn(len(of))] }

// some: of a list, each one with a chance of one out of so many; in any order.
func some[T any](c *chosen, of []T, outOf int) []T {
	var l []T
	for _, i := range c.Perm(len(of)) {
		if c.Intn(outOf) == 0 {
			l = append(l, of[i])
		}
	}
	return l
}

// constants: the least and the greatest of each kind, and bytes of all sorts.
func constants() []api.Term {
	return []api.Term{
		num(0), num(1), num(-1), num(256), num(leastInt), num(greatestInt), num(0x0102030405060708),
		txt(""), txt("a"), txt("alice"), txt("\x00"), txt("\x00\xff\"\\\n"), txt("é"), txt("HSB1"), txt(long(63)), txt(long(64)), txt(strings.Repeat("\xff", 64)),
	}
}

func names() []string {
	return texts("p", "ok", "say", "saysX", "p_Q7", long(31), long(32))
}

// goals: valid atoms, with variables too.
func goals() []api.Atom {
	out := []api.Atom{
		atom("p", txt("a")), atom("ok"), says(txt("alice"), "good", txt("carl")), atom("may", v(0)), says(v(greatestInt), "p", v(greatestInt), num(leastInt)),
		atom("p", nTimes(8, txt(strings.Repeat("\xff", 64)))...), says(txt(long(64)), long(32), nTimes(8, txt(long(64)))...),
	}
	for _, t := range constants() {
		out = append(out, atom("p", t))
		if term.Principal(t) {
			out = append(out, says(t, "p", v(1), t))
		}
	}
	for _, s := range names() {
		out = append(out, atom(s))
	}
	return out
}

// wrongAtom: an atom that isn't valid, and why.
type wrongAtom struct {
	a   api.Atom
	err api.Errno
}

// wrongAtoms: of every error; some with several things wrong, so that the first one must be told.
func wrongAtoms() []wrongAtom {
	nine := nTimes(9, none)
	return []wrongAtom{
		{api.Atom{}, api.ErrName}, {atom("P"), api.ErrName}, {atom("says"), api.ErrName}, {atom(long(33)), api.ErrName}, {says(num(1), "7", nine...), api.ErrName},
		{atom("p", nTimes(9, num(1))...), api.ErrArity}, {says(num(5), "p", nine...), api.ErrArity},
		{says(num(5), "p", none), api.ErrBy}, {says(txt(""), "p"), api.ErrBy}, {says(txt(long(65)), "p"), api.ErrBy}, {says(v(-1), "p"), api.ErrBy}, {says(api.Term{N: 1}, "p"), api.ErrBy},
		{atom("p", none), api.ErrTerm}, {atom("p", txt(long(65))), api.ErrTerm}, {atom("p", num(1), v(-1)), api.ErrTerm}, {atom("p", api.Term{Kind: api.KindNum, S: "x"}), api.ErrTerm},
	}
}

// wrong: a clause that isn't valid, and why.
type wrong struct {
	c   api.Clause
	err api.Errno
}

// wrongClauses: of every error.
func wrongClauses() []wrong {
	x, y := v(0), v(1)
	yes := test(api.OpEq, num(1), num(1))
	out := []wrong{
		{rule(atom("p"), nTimes(9, atom("q"))...), api.ErrBody}, {with(rule(atom("P", x)), nTimes(9, yes)...), api.ErrBody},
		{with(rule(atom("p")), test(0, num(1), num(1))), api.ErrTest}, {with(rule(says(x, "p")), test(1, none, num(1))), api.ErrTest},
		{rule(says(x, "p"), atom("q", x)), api.ErrHead}, {rule(says(x, "p", y)), api.ErrHead},
		{rule(atom("p", x)), api.ErrSafe}, {with(rule(atom("p")), test(1, x, num(1))), api.ErrSafe}, {rule(atom("p", y), atom("q", x)), api.ErrSafe},
		{rule(atom("p"), atom("q", y)), api.ErrNumbering}, {rule(atom("p", y), atom("q", x, y)), api.ErrNumbering},
	}
	for _, w := range wrongAtoms() {
		out = append(out, wrong{rule(w.a), w.err}, wrong{rule(atom("p", x), w.a), w.err})
	}
	return out
}

// longestClause: as many of everything as there may be, each as long as it may be.
func longestClause() api.Clause {
	constant := txt(strings.Repeat("\xff", 64))
	a := says(constant, long(32), nTimes(8, constant)...)
	return with(rule(a, nTimes(8, a)...), nTimes(8, test(api.OpLe, constant, constant))...)
}

// validClauses: few, each of another kind.
func validClauses() []api.Clause {
	x, y := v(0), v(1)
	return []api.Clause{
		rule(atom("ok")), rule(says(txt("alice"), "p", num(leastInt), txt(""))), with(rule(atom("p", x), atom("q", x)), test(api.OpNe, x, txt(""))),
		with(rule(atom("p", x), says(y, "q", x)), test(api.OpLt, x, y), test(api.OpLe, num(greatestInt), txt(long(64)))),
		with(rule(says(txt("bob"), "good", x), atom("friend", x, y), says(y, "ok", x), says(txt("alice"), "on")), test(api.OpLt, x, num(7))),
		longestClause(),
	}
}

// derivations: such as have bytes: rules in any order and twice, steps that don't hold, numbers of rules and steps that aren't there.
func derivations() []api.Proof {
	all := validClauses()
	ok, p := all[0], all[2]
	return []api.Proof{
		{}, derivation(rules(ok), step(0, nil)), derivation(rules(ok)), derivation(nil, step(0, nil)), derivation(nil, step(greatestInt, nil, greatestInt, 0, 7)),
		derivation(rules(p, ok, p, p), step(3, []api.Term{num(5)}, 0), step(0, nil, 9, 9)), derivation(rules(ok), nTimes(5, step(0, nil))...),
		derivation(all, step(1, constants(), 1, 2, 3), step(1<<32, []api.Term{txt(long(64))})), derivation(nil, nTimes(300, step(7, nTimes(3, num(1)), 1))...),
	}
}

// wrongProof: a derivation without bytes, and why.
type wrongProof struct {
	p   api.Proof
	err api.Errno
}

// wrongProofs: each error of a rule, at each place among others; and each fault of a step.
func wrongProofs() []wrongProof {
	ok := rule(atom("ok"))
	badStep := step(-1, []api.Term{v(0)}, -1)
	var out []wrongProof
	for i, w := range wrongClauses() {
		other := wrongClauses()[(i+5)%len(wrongClauses())]
		out = append(out, wrongProof{derivation(rules(w.c)), w.err}, wrongProof{derivation(rules(ok, w.c, ok), step(0, nil)), w.err}, wrongProof{derivation(rules(ok, ok, w.c, other.c), badStep), w.err})
	}
	for _, s := range []api.Step{step(-1, nil), step(leastInt, nil), step(0, nil, -1), step(0, nil, 0, 1, leastInt), step(0, []api.Term{v(0)}), step(0, []api.Term{num(1), none}), step(0, []api.Term{txt(long(65))}), step(0, []api.Term{{Kind: 4}}), badStep} {
		out = append(out, wrongProof{derivation(rules(ok), s), api.ErrCode}, wrongProof{derivation(nil, step(0, nil), s, step(0, nil)), api.ErrCode})
	}
	return out
}

// certLists: certificates are any bytes here.
func certLists() [][]string {
	return [][]string{
		nil, texts(""), texts("", ""), texts("a"), texts("HSC1", "HSB1", "\x00\x00\x00\x01", "\x00\x00\x00\x00"), texts("b", "a", "a", ""), texts("", "x", "", "yy", ""),
		texts(long(255), long(256), long(257)), texts(long(65535), long(65536)), nTimes(300, ""), nTimes(256, "ab"), texts(strings.Repeat("\xff", 1000)),
	}
}

// bundles: each goal, each derivation and each list of certificates at least once.
func bundles() []held {
	gs, ps, cs := goals(), derivations(), certLists()
	var out []held
	for i := range max(len(gs), len(ps), len(cs)) {
		out = append(out, held{gs[i%len(gs)], cs[i%len(cs)], ps[i%len(ps)]})
	}
	for i := range len(ps) * len(cs) {
		out = append(out, held{gs[i%3], cs[i%len(cs)], ps[i%len(ps)]})
	}
	return out
}

// smallBundles: those of few bytes, to be spoilt in every way.
func smallBundles() []held {
	return slices.DeleteFunc(append(bundles(), exampleBundle()), func(x held) bool { return len(plainWrite(x)) > 400 })
}

// exampleBundle: what the chapter's first example proves, with other bytes as certificates.
func exampleBundle() held {
	good := rule(says(txt("alice"), "good", txt("carl")))
	may := rule(atom("may", v(0)), says(txt("alice"), "good", v(0)))
	return held{atom("may", txt("carl")), texts("HSC1 one", "HSC1 two"), derivation(rules(good, may), step(0, nil), step(1, []api.Term{txt("carl")}, 0))}
}

func (c *chosen) term(vars int) api.Term {
	if c.Intn(2) == 0 {
		return v(c.Intn(vars))
	}
	return one(c, constants()...)
}

func (c *chosen) atom(vars, most int) api.Atom {
	a := atom(one(c, names()...))
	if by := c.term(vars); term.Principal(by) || term.Variable(by) {
		a.By = by
	}
	for range c.Intn(most + 1) {
		a.Args = append(a.Args, c.term(vars))
	}
	return a
}

// clause: a valid one.
func (c *chosen) clause() api.Clause {
	for {
		vars := 1 + c.Intn(20)
		x := rule(c.atom(vars, 2))
		for range c.Intn(5) {
			x.Body = append(x.Body, c.atom(vars, 8))
		}
		for range c.Intn(3) {
			x.Tests = append(x.Tests, test(1+c.Intn(4), c.term(vars), c.term(vars)))
		}
		if x = clause.Normal(x); clause.Check(x) == api.OK {
			return x
		}
	}
}

func (c *chosen) step() api.Step {
	numbers := []int{0, 1, 2, 255, 256, 1 << 40, greatestInt}
	s := step(one(c, numbers...), nil)
	for range c.Intn(4) {
		s.Vals = append(s.Vals, one(c, constants()...))
	}
	for range c.Intn(4) {
		s.Uses = append(s.Uses, one(c, numbers...))
	}
	return s
}

func (c *chosen) bytes() string {
	b := make([]byte, one(c, 0, 0, 1, 2, 7, 40, 255, 256, 300))
	for i := range b {
		b[i] = one(c, 0, 0, 1, 2, 'H', 'S', 'B', '1', byte(c.Intn(256)))
	}
	return string(b)
}

// bundle: a goal, certificates and a derivation that have bytes.
func (c *chosen) bundle() held {
	x := held{goal: c.atom(1+c.Intn(1000), 8)}
	for range c.Intn(5) {
		x.certs = append(x.certs, c.bytes())
	}
	for range c.Intn(4) {
		x.p.Rules = append(x.p.Rules, c.clause())
	}
	for range c.Intn(5) {
		x.p.Steps = append(x.p.Steps, c.step())
	}
	return x
}

// spoilt: bytes turned, taken out, put in, cut, and put behind.
func (c *chosen) spoilt(b string) string {
	l := []byte(b)
	for range 1 + c.Intn(2) {
		at := c.Intn(len(l) + 1)
		end := min(len(l), at+1+c.Intn(9))
		switch c.Intn(7) {
		case 0:
			l = slices.Delete(l, at, end)
		case 1:
			l = slices.Insert(l, at, slices.Clone(l[at:end])...)
		case 2:
			l = slices.Insert(l, at, one(c, []byte{0, 1, 2, 3, 4, 8, 9, 'p', 0x7f, 0x80, 0xff}...))
		case 3:
			l = l[:at]
		case 4:
			l = append(l, byte(c.Intn(256)))
		default:
			if at < len(l) {
				l[at] ^= 1 << c.Intn(8)
			}
		}
	}
	return string(l)
}
