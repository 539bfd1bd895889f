package syntax_test

import (
	"math/rand"
	"slices"
	"strings"
	"testing"

	"hearsay/api"
	"hearsay/clause"
	"hearsay/syntax"
	"hearsay/term"
)

// constants: of each form that a text has.
func constants() []api.Term {
	return []api.Term{num(0), num(-1), num(leastInt), num(greatestInt), txt("a"), txt("ann"), txt("says"), txt("Ann"), txt(""), txt("_"), txt("7"), txt("a b"), txt("\"\\\n\t\x00\xff%.?"), txt(long(64)), txt(strings.Repeat("\x80", 64)), txt(":-")}
}

// chosen: clauses and atoms by chance, the same ones at every run. vars is how many different variables they have.
type chosen struct {
	*rand.Rand
	vars int
}

func (r chosen) term() api.Term {
	if r.Intn(2) == 0 {
		return v(r.Intn(r.vars))
	}
	l := constants()
	return l[r.Intn(len(l))]
}

func (r chosen) by() api.Term {
	switch t := r.term(); {
	case r.Intn(2) == 0:
		return none
	case term.Principal(t), term.Variable(t):
		return t
	}
	return txt("ann")
}

func (r chosen) atom(most int) api.Atom {
	a := api.Atom{By: r.by(), Name: []string{"p", "q", "pQ_7", long(32)}[r.Intn(4)]}
	for range r.Intn(most + 1) {
		a.Args = append(a.Args, r.term())
	}
	return a
}

func (r chosen) clause() api.Clause {
	c := api.Clause{Head: r.atom(3)}
	for range r.Intn(9) {
		c.Body = append(c.Body, r.atom(8))
	}
	for range r.Intn(9) {
		c.Tests = append(c.Tests, test(1+r.Intn(4), r.term(), r.term()))
	}
	return clause.Normal(c)
}

// validClauses: many, small and great.
func validClauses() []api.Clause {
	var out []api.Clause
	for _, c := range clausesAsPrinted() {
		out = append(out, c)
	}
	r := chosen{rand.New(rand.NewSource(57)), 1}
	for len(out) < 2000 {
		r.vars = 1 + r.Intn(80)
		if c := r.clause(); clause.Check(c) == api.OK {
			out = append(out, c)
		}
	}
	return append(out, longestClause())
}

// longestClause: as many of everything as there may be, each as long as it may be.
func longestClause() api.Clause {
	constant := txt(strings.Repeat("\xff", 64))
	a := says(constant, long(32), slices.Repeat([]api.Term{constant}, 8)...)
	return with(rule(a, slices.Repeat([]api.Atom{a}, 8)...), slices.Repeat([]api.Test{test(api.OpLe, constant, constant)}, 8)...)
}

// P5.7: Clause of Print.
func TestEveryValidClauseComesBack(t *testing.T) {
	for _, c := range validClauses() {
		text := syntax.Print(c)
		wantClause(t, text, c)
		wantProgram(t, text, c)
	}
	for text, c := range clausesAsPrinted() {
		wantClause(t, text, c)
	}
}

// P5.7: small clauses, every one: a term of each form at each place.
func TestEverySmallClauseComesBack(t *testing.T) {
	over := append(constants(), v(0), v(1), v(2), none)
	valid := 0
	for _, a := range over {
		for _, b := range over {
			for _, c := range over {
				for _, d := range []api.Clause{
					rule(says(a, "p", b, c)),
					rule(atom("p", a), says(b, "q", c)),
					rule(atom("p"), says(a, "q", b), says(c, "r")),
					with(rule(atom("p", a), atom("q", v(0))), test(api.OpNe, b, c)),
					with(rule(atom("p"), atom("q", a)), test(api.OpLt, b, c)),
				} {
					text := syntax.Print(d)
					if (clause.Check(d) == api.OK) != (text != "") {
						t.Errorf("P5.6: Print(%+v) is %q", d, text)
					}
					if text != "" {
						valid++
						wantClause(t, text, d)
					}
				}
			}
		}
	}
	if valid < 10000 {
		t.Errorf("only %d of the clauses are valid", valid)
	}
}

// P5.7: Query of PrintQuery, where the variables are numbered as they first stand.
func TestEveryValidQueryComesBack(t *testing.T) {
	r := chosen{rand.New(rand.NewSource(58)), 1}
	for range 5000 {
		r.vars = 1 + r.Intn(9)
		a := clause.Normal(api.Clause{Head: r.atom(8)}).Head
		if term.CheckAtom(a) != api.OK {
			t.Fatalf("%+v isn't valid", a)
		}
		wantQuery(t, syntax.PrintQuery(a), a)
	}
	wantQuery(t, syntax.PrintQuery(longestClause().Head), longestClause().Head)
}

// P5.7: Program of PrintAll, doubles too; those that aren't valid are gone.
func TestEveryProgramComesBack(t *testing.T) {
	all := validClauses()
	r := rand.New(rand.NewSource(59))
	for range 300 {
		var cs, valid []api.Clause
		for range r.Intn(12) {
			if r.Intn(4) == 0 {
				bad := clausesRefused()
				cs = append(cs, bad[r.Intn(len(bad))])
				continue
			}
			c := all[r.Intn(len(all))]
			for range 1 + r.Intn(2) {
				cs, valid = append(cs, c), append(valid, c)
			}
		}
		wantProgram(t, syntax.PrintAll(cs), valid...)
	}
}

// P5.7: up to MaxSource bytes; behind that the text is too long.
func TestProgramsOfJustMaxSource(t *testing.T) {
	line := rule(atom("ppppp", num(1), num(2), num(3))) // 15 bytes, and a line feed
	cs := slices.Repeat([]api.Clause{line}, 1048576/16)
	if text := syntax.PrintAll(cs); len(text) != 1048576 {
		t.Fatalf("the text has %d bytes", len(text))
	}
	wantProgram(t, syntax.PrintAll(cs), cs...)
	wantFault(t, syntax.PrintAll(append(cs, rule(atom("p")))), api.ErrTextLong, 0)
}

// P5.7, Limits: MaxText is enough for every valid clause.
func TestLongestClause(t *testing.T) {
	c := longestClause()
	if err := clause.Check(c); err != api.OK {
		t.Fatalf("Check: %d", err)
	}
	if n := len(syntax.Print(c)); n >= 27000 || n < 25000 {
		t.Errorf("the longest clause prints to %d bytes", n)
	}
	wantClause(t, syntax.Print(c), c)
}

// P5.7: whatever is answered without a fault is valid.
func TestWhatIsReadIsValid(t *testing.T) {
	r := newPicker(60)
	for range 3000 {
		text := r.program()
		if text != "" && r.Intn(2) == 0 {
			text = r.spoilt(text)
		}
		cs, _ := syntax.Program(text)
		for _, c := range cs {
			if err := clause.Check(c); err != api.OK {
				t.Errorf("Program(%q) says %+v: %d", text, c, err)
			}
		}
		text = r.atom() + "?"
		if a, f := syntax.Query(text); f.Err == api.OK && (term.CheckAtom(a) != api.OK || !same(clause.Normal(api.Clause{Head: a}), api.Clause{Head: a})) {
			t.Errorf("Query(%q) is %+v", text, a)
		}
	}
}
