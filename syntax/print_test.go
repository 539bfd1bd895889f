package syntax_test

import (
	"strings"
	"testing"

	"hearsay/api"
	"hearsay/syntax"
)

// validNowhere: terms that are neither constants nor variables.
func validNowhere() []api.Term {
	return []api.Term{
		none, {Kind: api.KindNone, N: 1}, {Kind: api.KindNone, S: "x"}, {Kind: api.KindNum, N: 5, S: "x"}, {Kind: api.KindText, N: 1, S: "x"}, {Kind: api.KindText, N: -1}, txt(long(65)), txt(strings.Repeat("\xff", 65)),
		v(-1), v(leastInt), {Kind: api.KindVar, N: 1, S: "x"}, {Kind: 4}, {Kind: -1}, {Kind: greatestInt, N: leastInt, S: "y"}, {Kind: leastInt},
	}
}

// P5.4: words, says, quoted texts, numbers, variables, and terms that are none.
func TestPrintTerm(t *testing.T) {
	for _, c := range []struct {
		term api.Term
		want string
	}{
		{txt("bob"), "bob"}, {txt("says"), `"says"`}, {txt("Bob"), `"Bob"`}, {txt("7"), `"7"`}, {txt(""), `""`},
		{txt("b"), "b"}, {txt("bOB_7"), "bOB_7"}, {txt("say"), "say"}, {txt("saysx"), "saysx"}, {txt("_"), `"_"`}, {txt("_b"), `"_b"`}, {txt("-7"), `"-7"`}, {txt("a b"), `"a b"`}, {txt("a "), `"a "`}, {txt("a-b"), `"a-b"`}, {txt("é"), `"\xc3\xa9"`}, {txt("aé"), `"a\xc3\xa9"`},
		{txt("\"\\\n\t\r\x00\x1f\x7f\x80\xff ~"), `"\"\\\n\t\x0d\x00\x1f\x7f\x80\xff ~"`},
		{txt(long(64)), long(64)}, {txt(strings.Repeat("A", 64)), `"` + strings.Repeat("A", 64) + `"`},
		{num(0), "0"}, {num(7), "7"}, {num(-7), "-7"}, {num(10), "10"}, {num(leastInt), "-9223372036854775808"}, {num(greatestInt), "9223372036854775807"},
		{v(0), "V0"}, {v(7), "V7"}, {v(72), "V72"}, {v(greatestInt), "V9223372036854775807"},
	} {
		if got := syntax.PrintTerm(c.term); got != c.want {
			t.Errorf("P5.4: PrintTerm(%+v) is %q, want %q", c.term, got, c.want)
		}
	}
	for _, wrong := range validNowhere() {
		if got := syntax.PrintTerm(wrong); got != "" {
			t.Errorf("P5.4: PrintTerm(%+v) is %q", wrong, got)
		}
	}
}

// atomsAsPrinted: valid atoms of every form; their variables needn't be numbered as they stand.
func atomsAsPrinted() map[string]api.Atom {
	return map[string]api.Atom{
		"p":                              atom("p"),
		"p(5)":                           atom("p", num(5)),
		"pQ_7(a, -5, V3)":                atom("pQ_7", txt("a"), num(-5), v(3)),
		"ann says p":                     says(txt("ann"), "p"),
		`"Ann B" says p("", V0)`:         says(txt("Ann B"), "p", txt(""), v(0)),
		"V7 says p(V7, V1)":              says(v(7), "p", v(7), v(1)),
		`"says" says say("says", says1)`: says(txt("says"), "say", txt("says"), txt("says1")),
		"p(1, 2, 3, 4, 5, 6, 7, 8)":      atom("p", num(1), num(2), num(3), num(4), num(5), num(6), num(7), num(8)),
		long(32) + "(" + long(64) + ")":  atom(long(32), txt(long(64))),
	}
}

// atomsRefused: one for each of CheckAtom's reasons, at each place.
func atomsRefused() []api.Atom {
	out := []api.Atom{{}, atom("P"), atom("says"), atom("7"), atom("p q"), atom(long(33)), atom("p", num(1), num(2), num(3), num(4), num(5), num(6), num(7), num(8), num(9)), says(num(7), "p"), says(txt(""), "p")}
	for _, t := range validNowhere() {
		out = append(out, atom("p", t), atom("p", v(0), t))
		if t != none {
			out = append(out, says(t, "p"))
		}
	}
	return out
}

// P5.5, P5.6.
func TestPrintAtomAndPrintQuery(t *testing.T) {
	for want, a := range atomsAsPrinted() {
		if got := syntax.PrintAtom(a); got != want {
			t.Errorf("P5.5: PrintAtom(%+v) is %q, want %q", a, got, want)
		}
		if got := syntax.PrintQuery(a); got != want+"?" {
			t.Errorf("P5.6: PrintQuery(%+v) is %q, want %q", a, got, want+"?")
		}
	}
	for _, a := range atomsRefused() {
		if got := syntax.PrintAtom(a); got != "" {
			t.Errorf("P5.5: PrintAtom(%+v) is %q", a, got)
		}
		if got := syntax.PrintQuery(a); got != "" {
			t.Errorf("P5.6: PrintQuery(%+v) is %q", a, got)
		}
	}
}

// clausesAsPrinted: valid clauses of every form.
func clausesAsPrinted() map[string]api.Clause {
	return map[string]api.Clause{
		"p.":                                     rule(atom("p")),
		"ann says p(5).":                         rule(says(txt("ann"), "p", num(5))),
		"p :- q.":                                rule(atom("p"), atom("q")),
		"p :- q, q.":                             rule(atom("p"), atom("q"), atom("q")),
		"p :- 5 = 5.":                            with(rule(atom("p")), test(api.OpEq, num(5), num(5))),
		"p :- 5 = a, \"\" != 5, 1 < 2, 2 <= 1.":  with(rule(atom("p")), test(api.OpEq, num(5), txt("a")), test(api.OpNe, txt(""), num(5)), test(api.OpLt, num(1), num(2)), test(api.OpLe, num(2), num(1))),
		"good(V0) :- friend(V0, V1), V1 != bob.": with(rule(atom("good", v(0)), atom("friend", v(0), v(1))), test(api.OpNe, v(1), txt("bob"))),
		"\"x y\" says p(V0) :- V1 says q(V0), ann says r, V1 <= V0, V0 < 7.": with(rule(says(txt("x y"), "p", v(0)), says(v(1), "q", v(0)), says(txt("ann"), "r")), test(api.OpLe, v(1), v(0)), test(api.OpLt, v(0), num(7))),
	}
}

// clausesRefused: one for each of Check's reasons.
func clausesRefused() []api.Clause {
	out := []api.Clause{
		{},
		rule(atom("good", v(1))),
		rule(atom("good", v(0))),
		rule(atom("good", v(1)), atom("friend", v(0), v(1))),
		rule(says(v(0), "good"), says(v(0), "friend")),
		with(rule(atom("p")), test(api.OpEq, v(0), num(1))),
		with(rule(atom("p")), test(0, num(1), num(1))),
		with(rule(atom("p")), test(5, num(1), num(1))),
		with(rule(atom("p")), test(leastInt, num(1), num(1))),
		rule(atom("p"), make([]api.Atom, 9)...),
		with(rule(atom("p")), make([]api.Test, 9)...),
	}
	for _, a := range atomsRefused() {
		out = append(out, rule(a), rule(atom("p"), atom("q"), a))
	}
	for _, t := range validNowhere() {
		out = append(out, with(rule(atom("p")), test(api.OpEq, t, num(1))), with(rule(atom("p")), test(api.OpEq, num(1), t)))
	}
	return out
}

// P5.6.
func TestPrint(t *testing.T) {
	for want, c := range clausesAsPrinted() {
		if got := syntax.Print(c); got != want {
			t.Errorf("P5.6: Print(%+v) is %q, want %q", c, got, want)
		}
	}
	for _, c := range clausesRefused() {
		if got := syntax.Print(c); got != "" {
			t.Errorf("P5.6: Print(%+v) is %q", c, got)
		}
	}
}

// P5.6: a line each, as they stand in the list, doubles too; those that aren't valid are left out.
func TestPrintAll(t *testing.T) {
	p, q, bad := rule(atom("p")), rule(atom("q", num(1))), rule(atom("good", v(1)))
	for _, c := range []struct {
		cs   []api.Clause
		want string
	}{
		{nil, ""},
		{[]api.Clause{}, ""},
		{[]api.Clause{p, bad, q}, "p.\nq(1).\n"},
		{[]api.Clause{q, p, q, q}, "q(1).\np.\nq(1).\nq(1).\n"},
		{[]api.Clause{bad, bad, p, bad}, "p.\n"},
		{[]api.Clause{bad}, ""},
		{clausesRefused(), ""},
		{append(clausesRefused(), rule(atom("p", txt("\n")))), "p(\"\\n\").\n"},
	} {
		if got := syntax.PrintAll(c.cs); got != c.want {
			t.Errorf("P5.6: PrintAll(%+v) is %q, want %q", c.cs, got, c.want)
		}
	}
}
