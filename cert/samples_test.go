package cert_test

import (
	"slices"
	"strings"

	"hearsay/api"
	"hearsay/clause"
	"hearsay/term"
)

// principals: of all lengths' edges and all sorts of bytes; among them beginnings of one another.
func principals() []string {
	return texts(
		"ann", "bob", "a", "an", "annn", "Ann", "\x00", "\xff", "\n", " ", "\"", "7", "X", "says", "HSC1", "\x03ann", "é", "\xc3(", "ann\x00", long(63), long(64),
		strings.Repeat("\x00", 64), strings.Repeat("\xff", 64), strings.Repeat("é", 32),
	)
}

// noPrincipals: texts of no bytes, and of more than MaxConst; among them such whose length is that of a principal, but for a byte that is lost.
func noPrincipals() []string {
	return texts("", long(65), long(66), long(128), long(255), long(256), long(257), long(320), long(1<<16+3), strings.Repeat("\x00", 65), strings.Repeat("\xff", 65), strings.Repeat("é", 33))
}

// constants: the least and the greatest of each kind, and bytes of all sorts.
func constants() []api.Term {
	return []api.Term{
		num(0), num(1), num(-1), num(256), num(leastInt), num(greatestInt), num(0x0102030405060708),
		txt(""), txt("a"), txt("ann"), txt("\x00"), txt("\x00\xff\"\\\n"), txt("é"), txt(long(63)), txt(long(64)), txt(strings.Repeat("\xff", 64)),
	}
}

func names() []string {
	return texts("p", "ok", "on", "say", "saysX", "p_Q7", long(31), long(32), "z"+strings.Repeat("_", 31))
}

// longestClause: as many of everything as there may be, each as long as it may be.
func longestClause() api.Clause {
	constant := txt(strings.Repeat("\xff", 64))
	a := says(constant, long(32), nTimes(8, constant)...)
	return with(rule(atom(long(32), nTimes(8, constant)...), nTimes(8, a)...), nTimes(8, test(api.OpLe, constant, constant))...)
}

// mostVariables: 72 of them.
func mostVariables() api.Clause {
	c := rule(atom("p"))
	for i := range 8 {
		a := says(v(9*i), "q")
		for j := range 8 {
			a.Args = append(a.Args, v(9*i+j+1))
		}
		c.Body = append(c.Body, a)
	}
	return c
}

// smallClauses: few, each of another kind.
func smallClauses() []api.Clause {
	x, y := v(0), v(1)
	return []api.Clause{
		fact("ok"), fact("on"), fact("p"), rule(atom("p", num(leastInt), txt(""))),
		with(rule(atom("p", x), atom("q", x)), test(api.OpNe, x, txt(""))),
		with(fact("p"), test(api.OpEq, num(1), num(1))),
		rule(atom("p"), atom("p")), rule(atom("p"), says(txt("ann"), "p")), rule(atom("p"), says(txt("bob"), "p")), rule(atom("p"), says(x, "p")),
		with(rule(atom("p", x), says(y, "q", x)), test(api.OpLt, x, y), test(api.OpLe, num(greatestInt), txt(long(64)))),
		with(rule(atom("good", x), atom("friend", x, y), says(y, "ok", x), says(txt("ann"), "on")), test(api.OpLt, x, num(7)), test(api.OpLe, txt(""), y)),
	}
}

// validClauses: valid ones whose heads have no qualifier: the small ones, each count of each list, each constant at each place, the greatest; and others by chance.
func validClauses() []api.Clause {
	out := append(smallClauses(), longestClause(), mostVariables())
	for n := range 9 {
		out = append(out, rule(atom("p", nTimes(n, num(n))...)), rule(atom("p"), nTimes(n, atom("q"))...), with(fact("p"), nTimes(n, test(api.OpNe, num(1), num(2)))...))
	}
	for _, t := range constants() {
		out = append(out, rule(atom("p", t)), rule(atom("p", v(0)), atom("q", v(0), t)), with(rule(atom("p"), atom("q", v(0))), test(api.OpLt, v(0), t), test(api.OpLe, t, v(0))))
		if term.Principal(t) {
			out = append(out, rule(atom("p"), says(t, "q")))
		}
	}
	for _, s := range names() {
		out = append(out, fact(s), rule(atom(s), says(txt(s), s)))
	}
	c := newChosen(19)
	for range 150 {
		out = append(out, c.clause())
	}
	return out
}

func (c *chosen) term(vars int) api.Term {
	if c.Intn(2) == 0 {
		return v(c.Intn(vars))
	}
	return one(c, constants()...)
}

func (c *chosen) atom(vars, most int) api.Atom {
	a := atom(one(c, names()...))
	for range c.Intn(most + 1) {
		a.Args = append(a.Args, c.term(vars))
	}
	return a
}

// clause: a valid one whose head has no qualifier.
func (c *chosen) clause() api.Clause {
	for {
		vars := 1 + c.Intn(80)
		x := rule(c.atom(vars, 3))
		for range c.Intn(9) {
			a := c.atom(vars, 8)
			if by := c.term(vars); term.Principal(by) || term.Variable(by) {
				a.By = by
			}
			x.Body = append(x.Body, a)
		}
		for range c.Intn(4) {
			x.Tests = append(x.Tests, test(1+c.Intn(4), c.term(vars), c.term(vars)))
		}
		if x = clause.Normal(x); clause.Check(x) == api.OK {
			return x
		}
	}
}

// qualifiedClauses: valid, but with a qualifier of the head: a principal of any kind.
func qualifiedClauses() []api.Clause {
	var out []api.Clause
	for _, u := range principals() {
		out = append(out, saidBy(txt(u), fact("ok")))
	}
	for _, c := range append(smallClauses(), longestClause(), mostVariables()) {
		out = append(out, saidBy(txt("ann"), c), saidBy(txt("bob"), c))
	}
	return out
}

// wrong: a clause that isn't valid, and why.
type wrong struct {
	c   api.Clause
	err api.Errno
}

// wrongClauses: of every error; most of them with several things wrong, so that the first one must be told.
func wrongClauses() []wrong {
	x, y := v(0), v(1)
	one := test(api.OpEq, num(1), num(1))
	out := []wrong{
		{rule(atom("p"), nTimes(9, atom("q"))...), api.ErrBody}, {with(fact("p"), nTimes(9, one)...), api.ErrBody}, {with(rule(atom("P", x), nTimes(9, atom("q"))...), one), api.ErrBody},
		{api.Clause{}, api.ErrName}, {fact(""), api.ErrName}, {fact("Ok"), api.ErrName}, {fact("says"), api.ErrName}, {fact(long(33)), api.ErrName}, {rule(atom("p", x), atom("7")), api.ErrName},
		{rule(atom("p", nTimes(9, num(1))...)), api.ErrArity}, {rule(atom("p", x), atom("q", nTimes(9, x)...)), api.ErrArity},
		{rule(says(num(5), "p", none)), api.ErrBy}, {rule(says(txt(""), "p")), api.ErrBy}, {rule(says(txt(long(65)), "p")), api.ErrBy}, {rule(atom("p"), says(num(1), "q")), api.ErrBy},
		{saidBy(api.Term{N: 1}, fact("p")), api.ErrBy}, {saidBy(api.Term{S: "x"}, fact("p")), api.ErrBy}, {saidBy(v(-1), fact("p")), api.ErrBy}, {saidBy(api.Term{Kind: 4}, fact("p")), api.ErrBy},
		{rule(atom("p", none)), api.ErrTerm}, {rule(atom("p", txt(long(65)))), api.ErrTerm}, {rule(atom("p", v(-1))), api.ErrTerm}, {rule(atom("p", y), atom("q", api.Term{Kind: 9})), api.ErrTerm},
		{with(fact("p"), test(0, num(1), num(1))), api.ErrTest}, {with(fact("p"), one, test(5, x, num(1))), api.ErrTest}, {with(saidBy(x, fact("p")), test(1, none, num(1))), api.ErrTest},
		{rule(says(x, "p"), atom("q", x)), api.ErrHead}, {rule(says(x, "p", y)), api.ErrHead}, {rule(says(v(greatestInt), "p")), api.ErrHead},
		{rule(atom("p", x)), api.ErrSafe}, {with(fact("p"), test(1, x, num(1))), api.ErrSafe}, {rule(atom("p", y), atom("q", x)), api.ErrSafe},
		{rule(atom("p"), atom("q", y)), api.ErrNumbering}, {rule(atom("p", y), atom("q", x, y)), api.ErrNumbering}, {rule(atom("p"), says(v(greatestInt), "q")), api.ErrNumbering},
	}
	for _, w := range slices.Clone(out) {
		if w.c.Head.By == none {
			out = append(out, wrong{saidBy(txt("bob"), w.c), w.err}) // ErrQualified comes behind
		}
	}
	return out
}

// readableWrongs: those of which each part is as chapter 6's table has it, so that they have bytes all the same.
func readableWrongs() []wrong {
	return slices.DeleteFunc(wrongClauses(), func(w wrong) bool {
		return !slices.Contains([]api.Errno{api.ErrHead, api.ErrSafe, api.ErrNumbering}, w.err)
	})
}
