package journal_test

import (
	"strings"
	"testing"

	"hearsay/api"
	"hearsay/clause"
	"hearsay/term"
)

// principals: of all lengths' edges and all sorts of bytes; among them beginnings of one another.
func principals() []string {
	return texts(
		"ann", "bob", "a", "an", "annn", "Ann", "\x00", "\xff", "\n", " ", "\"", "7", "X", "says", "HSJ1", "\x03ann", "é", "\xc3(", "ann\x00", long(63), long(64),
		strings.Repeat("\x00", 64), strings.Repeat("\xff", 64), strings.Repeat("é", 32), sum("ann"), sum("ann")+sum("bob"),
	)
}

// noPrincipals: texts of no bytes, and of more than MaxConst; among them such whose length is that of a principal, but for a byte that is lost.
func noPrincipals() []string {
	return texts("", long(65), long(66), long(128), long(255), long(256), long(257), long(320), long(1<<16+3), strings.Repeat("\x00", 65), strings.Repeat("\xff", 65), strings.Repeat("é", 33))
}

// constants: the least and the greatest of each kind, and bytes of all sorts.
func constants() []api.Term {
	return []api.Term{
		num(0), num(1), num(-1), num(256), num(leastInt), num(greatestInt), num(0x0102030405060708),
		txt(""), txt("a"), txt("ann"), txt("\x00"), txt("\x00\xff\"\\\n"), txt("é"), txt(long(63)), txt(long(64)), txt(strings.Repeat("\xff", 64)),
	}
}

func names() []string { return texts("p", "ok", "say", "saysX", "p_Q7", long(32)) }

// longestClause: as many of everything as there may be, each as long as it may be; but its head has no qualifier.
func longestClause() api.Clause {
	constant := txt(strings.Repeat("\xff", 64))
	a := says(constant, long(32), nTimes(8, constant)...)
	return with(rule(atom(long(32), nTimes(8, constant)...), nTimes(8, a)...), nTimes(8, test(api.OpLe, constant, constant))...)
}

// mostVariables: 72 of them.
func mostVariables() api.Clause {
	c := rule(atom("p"))
	for i := range 8 {
		a := says(v(9*i), "q")
		for j := range 8 {
			a.Args = append(a.Args, v(9*i+j+1))
		}
		c.Body = append(c.Body, a)
	}
	return c
}

// unsaid: valid clauses whose heads have no qualifier, each of another kind.
func unsaid() []api.Clause {
	x, y := v(0), v(1)
	return []api.Clause{
		fact("ok"), fact("on"), fact("p"), rule(atom("p", num(leastInt), txt(""))),
		with(rule(atom("p", x), atom("q", x)), test(api.OpNe, x, txt(""))),
		with(fact("p"), test(api.OpEq, num(1), num(1))),
		rule(atom("p"), atom("p")), rule(atom("p"), says(txt("ann"), "p")), rule(atom("p"), says(x, "p")),
		with(rule(atom("p", x), says(y, "q", x)), test(api.OpLt, x, y), test(api.OpLe, num(greatestInt), txt(long(64)))),
		with(rule(atom("good", x), atom("friend", x, y), says(y, "ok", x), says(txt("ann"), "on")), test(api.OpLt, x, num(7)), test(api.OpLe, txt(""), y)),
		longestClause(), mostVariables(),
	}
}

// validClauses: these, the same said by others, and some by chance.
func validClauses() []api.Clause {
	out := unsaid()
	for _, c := range unsaid() {
		out = append(out, saidBy(txt("bob"), c), saidBy(txt(long(64)), c))
	}
	c := newChosen(22)
	for range 60 {
		out = append(out, c.clause())
	}
	return out
}

func (c *chosen) term(vars int) api.Term {
	if c.Intn(2) == 0 {
		return v(c.Intn(vars))
	}
	return one(c, constants()...)
}

func (c *chosen) atom(vars, most int) api.Atom {
	a := atom(one(c, names()...))
	for range c.Intn(most + 1) {
		a.Args = append(a.Args, c.term(vars))
	}
	if by := c.term(vars); term.Principal(by) || term.Variable(by) {
		a.By = by
	}
	return a
}

func (c *chosen) clause() api.Clause {
	for {
		vars := 1 + c.Intn(80)
		x := rule(c.atom(vars, 3))
		for range c.Intn(9) {
			x.Body = append(x.Body, c.atom(vars, 8))
		}
		for range c.Intn(4) {
			x.Tests = append(x.Tests, test(1+c.Intn(4), c.term(vars), c.term(vars)))
		}
		if x = clause.Normal(x); clause.Check(x) == api.OK {
			return x
		}
	}
}

// wrongClauses: of every error of Check.
func wrongClauses() []api.Clause {
	x, y := v(0), v(1)
	one := test(api.OpEq, num(1), num(1))
	return []api.Clause{
		rule(atom("p"), nTimes(9, atom("q"))...), with(fact("p"), nTimes(9, one)...),
		{}, fact("Ok"), fact("says"), fact(long(33)), rule(atom("p", x), atom("7")), {Body: []api.Atom{atom("p")}}, {Tests: []api.Test{one}},
		rule(atom("p", nTimes(9, num(1))...)),
		rule(says(num(5), "p")), rule(says(txt(""), "p")), rule(says(txt(long(65)), "p")), saidBy(api.Term{N: 1}, fact("p")), rule(atom("p"), says(num(1), "q")),
		rule(atom("p", none)), rule(atom("p", txt(long(65)))), rule(atom("p", v(-1))), rule(atom("p", api.Term{Kind: api.KindNum, N: 1, S: "x"})), rule(atom("p", api.Term{Kind: api.KindText, N: 1, S: "a"})),
		with(fact("p"), test(0, num(1), num(1))), with(fact("p"), one, test(5, x, num(1))), with(fact("p"), api.Test{}),
		rule(says(x, "p"), atom("q", x)),
		rule(atom("p", x)), with(fact("p"), test(1, x, num(1))), rule(atom("p", y), atom("q", x)),
		rule(atom("p"), atom("q", y)), rule(atom("p", y), atom("q", x, y)), rule(atom("p"), says(v(greatestInt), "q")),
	}
}

// certificates: of several signers, of each kind of clause, the longest too; seals that were never given among them, since Read takes those.
func certificates(t *testing.T) []string {
	t.Helper()
	var out []string
	r := ringOf(t, "s", "ann", "bob", long(64))
	for i, c := range unsaid() {
		b := issuedClause(t, r, texts("ann", "bob", long(64))[i%3], c)
		out = append(out, b, turned(b, len(b)-1, 0x80))
	}
	return append(out, issuedClause(t, r, long(64), longestClause()), "HSC1\x03ann\x00\x02ok\x00\x00\x00"+strings.Repeat("\x00", 32))
}

// noCertificates: bytes that Read refuses, with each of its errors.
func noCertificates(t *testing.T) []string {
	t.Helper()
	good := certificates(t)[0]
	out := texts(
		"", "\x00", "H", "HSC1", "HSC", "HSC2"+good[4:], "HSJ1"+good[4:], "HSC1\x00"+good[5:], "HSC1\x41"+good[5:], "HSC1\x03an", "HSC1\x03ann"+strings.Repeat("\x00", 31), "HSC1\x03ann"+strings.Repeat("\x00", 32),
		good[1:], good[:len(good)-1], good+"\x00", good+good, "\x00"+good, clauseBytes(fact("ok")), sum("x"), strings.Repeat("\x00", 5000), plainJournal("ann", nil),
	)
	seal := strings.Repeat("\x00", 32)
	out = append(out, "HSC1\x03ann"+clauseBytes(saidBy(txt("bob"), fact("ok")))+seal, "HSC1\x03ann"+clauseBytes(rule(atom("p", v(0))))+seal, "HSC1\x03ann\x09"+seal)
	return out
}

// ids: any 32 bytes.
func ids() []api.Digest {
	return []api.Digest{{}, {1}, {31: 1}, {0x80}, {31: 0x80}, digestOf("x"), api.Digest([]byte(strings.Repeat("\xff", 32)))}
}

// rightRecords: of every kind.
func rightRecords(t *testing.T) []api.Record {
	t.Helper()
	var out []api.Record
	for _, c := range validClauses() {
		out = append(out, assertion(c), retraction(c))
	}
	for _, b := range certificates(t) {
		out = append(out, taking(b))
	}
	for _, id := range ids() {
		out = append(out, forgetting(id))
	}
	return out
}

// fewRecords: one or two of every kind, none of them long.
func fewRecords(t *testing.T) []api.Record {
	t.Helper()
	return records(assertion(fact("ok")), taking(certificates(t)[0]), forgetting(api.Digest{1}), retraction(fact("ok")), assertion(with(rule(atom("p", v(0)), says(v(1), "q", v(0))), test(api.OpNe, v(0), num(7)))), forgetting(api.Digest{}))
}

// part: something of a record that a kind doesn't use, filled in.
type part struct {
	name string
	fill func(*api.Record)
}

func bytesParts() []part {
	return []part{
		{"a byte", func(r *api.Record) { r.Bytes = []byte{0} }},
		{"bytes", func(r *api.Record) { r.Bytes = []byte("more") }},
	}
}

func idParts() []part {
	return []part{
		{"an id's first byte", func(r *api.Record) { r.Id[0] = 1 }},
		{"an id's last byte", func(r *api.Record) { r.Id[31] = 0x80 }},
	}
}

func clauseParts() []part {
	at := func(name string, c api.Clause) part { return part{name, func(r *api.Record) { r.Clause = c }} }
	return []part{
		at("a whole clause", fact("ok")),
		at("a name", fact("p")),
		at("a qualifier", api.Clause{Head: api.Atom{By: txt("ann")}}),
		at("a qualifier's kind alone", api.Clause{Head: api.Atom{By: api.Term{Kind: api.KindText}}}),
		at("a qualifier's text alone", api.Clause{Head: api.Atom{By: api.Term{S: "ann"}}}),
		at("a qualifier's number alone", api.Clause{Head: api.Atom{By: api.Term{N: -1}}}),
		at("an argument", rule(atom("", num(0)))),
		at("an argument that is none", rule(atom("", none))),
		at("a body", api.Clause{Body: []api.Atom{atom("p")}}),
		at("a body of the zero atom", api.Clause{Body: []api.Atom{{}}}),
		at("a test", with(api.Clause{}, test(api.OpEq, num(1), num(1)))),
		at("the zero test", with(api.Clause{}, api.Test{})),
	}
}

// unusedParts: those that the kind doesn't use.
func unusedParts(kind int) []part {
	switch kind {
	case api.RecAssert, api.RecRetract:
		return append(bytesParts(), idParts()...)
	case api.RecTake:
		return append(clauseParts(), idParts()...)
	}
	return append(clauseParts(), bytesParts()...)
}

// wrongRecords: no kind, a clause that isn't valid, bytes of no certificate, a field too much.
func wrongRecords(t *testing.T) []api.Record {
	t.Helper()
	out := records(api.Record{}, api.Record{Kind: 3})
	for _, r := range fewRecords(t) {
		for _, kind := range []int{leastInt, -1, 0, 5, 6, 255, 256, 256 + r.Kind, 1<<32 + r.Kind, r.Kind - 256, -r.Kind, greatestInt} {
			r.Kind = kind
			out = append(out, r)
		}
	}
	for _, c := range wrongClauses() {
		out = append(out, assertion(c), retraction(c))
	}
	for _, b := range noCertificates(t) {
		out = append(out, taking(b))
	}
	for _, r := range fewRecords(t) {
		for kind := api.RecAssert; kind <= api.RecForget; kind++ {
			if kind != r.Kind && (kind > api.RecRetract || r.Kind > api.RecRetract) { // these two use the same fields
				other := r
				other.Kind = kind
				out = append(out, other)
			}
		}
		for _, p := range unusedParts(r.Kind) {
			other := r
			p.fill(&other)
			out = append(out, other)
		}
	}
	return out
}
