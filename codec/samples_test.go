package codec_test

import (
	"math/rand"
	"slices"
	"strings"

	"hearsay/api"
	"hearsay/clause"
	"hearsay/term"
)

// constants: the least and the greatest of each kind, and bytes of all sorts.
func constants() []api.Term {
	return []api.Term{
		num(0), num(1), num(-1), num(7), num(255), num(256), num(leastInt), num(greatestInt), num(0x0102030405060708), num(-0x0102030405060708),
		txt(""), txt("a"), txt("alice"), txt("\x00"), txt("\x00\xff\"\\\n"), txt("é"), txt(long(63)), txt(long(64)), txt(strings.Repeat("\xff", 64)),
	}
}

func variables() []api.Term {
	return []api.Term{v(0), v(1), v(71), v(255), v(256), v(1 << 32), v(0x0102030405060708), v(greatestInt)}
}

// qualifiers: all that an atom may have.
func qualifiers() []api.Term {
	out := append([]api.Term{none}, variables()...)
	for _, t := range constants() {
		if t.Kind == api.KindText && t.S != "" {
			out = append(out, t)
		}
	}
	return out
}

func names() []string {
	return []string{"p", "z", "ok", "say", "saysX", "says_", "p_Q7", "aZz09_", long(31), long(32), "z" + strings.Repeat("_", 31)}
}

// noNames: of 1 to 32 bytes, but no predicate's names.
func noNames() []string {
	return []string{"X", "_", "7", "says", "p q", "p-", "pé", "`", "{", "\x00", "p\x00", "\xff", "p@", "p[", "p/", "p:", "p^", "p`", "p{", "X" + long(31), long(31) + "."}
}

// notTerms: neither constants nor variables nor none.
func notTerms() []api.Term {
	return []api.Term{
		{Kind: api.KindNone, N: 1}, {Kind: api.KindNone, S: "x"}, {Kind: api.KindNum, N: 5, S: "x"}, {Kind: api.KindText, N: 1, S: "x"}, {Kind: api.KindText, N: -1}, txt(long(65)), txt(long(300)),
		v(-1), v(leastInt), {Kind: api.KindVar, N: 1, S: "x"}, {Kind: 4}, {Kind: -1}, {Kind: 257, N: 1}, {Kind: 258, S: "x"}, {Kind: greatestInt, N: leastInt, S: "y"}, {Kind: leastInt},
	}
}

// chosen: things by chance, the same ones at every run. vars is how many different variables they have.
type chosen struct {
	*rand.Rand
	vars int
}

func newChosen(seed int64) *chosen { return &chosen{rand.New(rand.NewSource(seed)), 1} }

func anyOf[T any](r *chosen, l []T) T { return l[r.Intn(len(l))] }

func (r *chosen) term() api.Term {
	if r.Intn(2) == 0 {
		return v(r.Intn(r.vars))
	}
	return anyOf(r, constants())
}

func (r *chosen) by() api.Term {
	if t := r.term(); term.Principal(t) || term.Variable(t) {
		return t
	}
	return none
}

func (r *chosen) atom(most int) api.Atom {
	a := api.Atom{By: r.by(), Name: anyOf(r, names())}
	for range r.Intn(most + 1) {
		a.Args = append(a.Args, r.term())
	}
	return a
}

func (r *chosen) clause() api.Clause {
	for {
		r.vars = 1 + r.Intn(80)
		c := api.Clause{Head: r.atom(3)}
		for range r.Intn(9) {
			c.Body = append(c.Body, r.atom(8))
		}
		for range r.Intn(4) {
			c.Tests = append(c.Tests, test(1+r.Intn(4), r.term(), r.term()))
		}
		if c = clause.Normal(c); clause.Check(c) == api.OK {
			return c
		}
	}
}

// step: of no use, but writable.
func (r *chosen) step() api.Step {
	s := api.Step{Rule: anyOf(r, []int{0, 1, 2, 255, 256, 1 << 40, greatestInt})}
	for range r.Intn(5) {
		s.Vals = append(s.Vals, anyOf(r, constants()))
	}
	for range r.Intn(5) {
		s.Uses = append(s.Uses, anyOf(r, []int{0, 1, 2, 255, 256, 1 << 40, greatestInt}))
	}
	return s
}

// validAtoms: each term at each place where it may stand, each name, each number of arguments; and others by chance.
func validAtoms() []api.Atom {
	var out []api.Atom
	for _, t := range qualifiers() {
		out = append(out, says(t, "p"), says(t, "q", t, v(3)))
	}
	out = slices.DeleteFunc(out, func(a api.Atom) bool { return term.CheckAtom(a) != api.OK })
	for _, t := range append(constants(), variables()...) {
		out = append(out, atom("p", t), atom("p", v(1), t), says(txt("bob"), "p", t, num(5)))
	}
	for _, s := range names() {
		out = append(out, atom(s), says(v(0), s, txt(s)))
	}
	for n := range 9 {
		out = append(out, atom("p", nTimes(n, num(n))...), says(txt(long(64)), long(32), nTimes(n, txt(long(64)))...))
	}
	r := newChosen(61)
	for range 300 {
		r.vars = 1 + r.Intn(1000)
		out = append(out, r.atom(8))
	}
	return out
}

// longestClause: as many of everything as there may be, each as long as it may be.
func longestClause() api.Clause {
	constant := txt(strings.Repeat("\xff", 64))
	a := says(constant, long(32), nTimes(8, constant)...)
	return with(rule(a, nTimes(8, a)...), nTimes(8, test(api.OpLe, constant, constant))...)
}

// mostVariables: 72 of them.
func mostVariables() api.Clause {
	c := rule(atom("p"))
	for i := range 8 {
		a := says(v(9*i), "q")
		for j := range 8 {
			a.Args = append(a.Args, v(9*i+j+1))
		}
		c.Body = append(c.Body, a)
	}
	return c
}

// shownClauses: small ones, with nothing, one and the most of each list.
func shownClauses() []api.Clause {
	x, y := v(0), v(1)
	out := []api.Clause{
		rule(atom("ok")), rule(atom("p")), rule(atom("q")), rule(says(txt("alice"), "p", num(leastInt), txt(""))),
		with(rule(atom("p", x), atom("q", x)), test(api.OpNe, x, txt(""))),
		with(rule(atom("p")), test(api.OpEq, num(1), num(1))),
		with(rule(atom("p", x), says(y, "q", x)), test(api.OpLt, x, y), test(api.OpLe, num(greatestInt), txt(long(64)))),
		with(rule(says(txt("bob"), "good", x), atom("friend", x, y), says(y, "ok", x), says(txt("alice"), "on")), test(api.OpLt, x, num(7)), test(api.OpLe, txt(""), y)),
		longestClause(), mostVariables(),
	}
	for n := range 9 {
		out = append(out, rule(atom("p"), nTimes(n, atom("q"))...), with(rule(atom("p")), nTimes(n, test(api.OpNe, num(1), num(2)))...))
	}
	return out
}

func validClauses() []api.Clause {
	out := shownClauses()
	r := newChosen(62)
	for range 300 {
		out = append(out, r.clause())
	}
	return out
}

// validSets: in order, none twice.
func validSets() [][]api.Clause {
	out := [][]api.Clause{nil, clause.Set(shownClauses())}
	for _, c := range shownClauses() {
		out = append(out, list(c))
	}
	r := newChosen(63)
	valid := validClauses()
	for n := range 40 {
		var cs []api.Clause
		for range n % 7 {
			cs = append(cs, anyOf(r, valid))
		}
		out = append(out, clause.Set(cs))
	}
	return append(out, clause.Set(manyClauses(300)))
}

// manyClauses: more than a count of one byte can tell.
func manyClauses(n int) []api.Clause {
	var out []api.Clause
	for i := range n {
		out = append(out, rule(atom("p", num(i))))
	}
	return out
}

// writableProofs: rules in any order and twice, steps that don't hold, numbers of rules and steps that aren't there.
func writableProofs() []api.Proof {
	ok, p := rule(atom("ok")), with(rule(atom("p", v(0)), atom("q", v(0))), test(api.OpNe, v(0), txt("")))
	out := []api.Proof{
		{}, proof(list(ok), step(0, nil)), proof(list(ok)), proof(nil, step(0, nil)), proof(nil, step(greatestInt, nil, greatestInt, 0, 7)),
		proof(list(p, ok, p, p), step(3, []api.Term{num(5)}, 0), step(0, nil, 9, 9)), proof(list(ok), nTimes(5, step(0, nil))...),
		proof(nil, step(1, constants(), 1, 2, 3)), proof(nil, step(1, constants()), step(2, nil, 0), step(1<<32, []api.Term{txt(long(64))})),
		proof(manyClauses(300), slices.Concat(nTimes(300, step(0, nil)), []api.Step{step(299, nTimes(300, num(1)), nTimes(300, 1)...)})...),
	}
	r := newChosen(64)
	for n := range 60 {
		var d api.Proof
		for range n % 4 {
			d.Rules = append(d.Rules, r.clause())
		}
		for range r.Intn(5) {
			d.Steps = append(d.Steps, r.step())
		}
		out = append(out, d)
	}
	return out
}
