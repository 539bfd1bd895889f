package upkeep_test

import (
	"slices"
	"testing"

	"hearsay/api"
)

// P17.1, P17.4, P17.5: what the looks tell.

// oddAtoms: such as are valid nowhere, and such as might be taken for one another by one who spells them carelessly.
func oddAtoms() []api.Atom {
	return atoms(
		api.Atom{}, atom("P"), atom("says"), atom("p "), atom("p q"), atom(" p"), atom("p 0"), atom("1 p"), atom("p(a)"), atom("ann says p"), atom(long(33), a), atom("p\x00"),
		p(nTimes(9, a)...), p(nTimes(9, v(0))...), p(nTimes(1000, v(0))...), q(nTimes(8, none)...),
		p(none), p(none, none), p(v(-1)), p(v(leastInt)), p(txt(long(65))), p(api.Term{Kind: 9}), p(api.Term{Kind: -1, N: 1}), p(api.Term{Kind: greatestInt}),
		p(api.Term{Kind: api.KindNum, N: 1, S: "1"}), p(api.Term{Kind: api.KindText, N: 1, S: "a"}), p(api.Term{Kind: api.KindVar, N: 0, S: "X"}), p(api.Term{N: 1}), p(api.Term{S: "a"}),
		by(a, atom("p0 0 0 ")), by(a, atom("p 0 0 0 ")), by(a, atom("p 0 0 0")), by(a, atom("p0 0 0")), by(a, atom("p000")), by(a, atom("p1 0 0 0 ")), atom("p", none, a), by(a, atom("1 p0 0 0 ")),
		by(num(1), p(a)), by(txt(""), p(a)), by(v(-1), p(a)), by(txt(long(65)), p(a)), by(api.Term{Kind: 9, S: "ann"}, p(a)), by(api.Term{N: 5}, p(a)), by(api.Term{S: "ann"}, p(a)),
	)
}

// nearFacts: facts that are near to one another, however they are spelled.
func nearFacts() []api.Atom {
	return atoms(
		p(), p(a), p(b), p(a, b), p(txt("ab")), p(txt("a b")), p(txt("a, b")), p(txt("a"), txt("")), p(txt(""), txt("a")), p(txt("")), p(txt(" ")), p(txt("\x00")), p(txt("\xff")), p(txt("a)")), p(txt("p(a)")),
		p(num(0)), p(num(1)), p(num(-1)), p(num(11)), p(num(1), num(1)), p(num(1), num(11)), p(num(11), num(1)), p(num(111)), p(txt("1")), p(txt("11")), p(txt("1 1")), p(num(1), txt("1")), p(txt("1"), num(1)), p(txt("0 "), num(2)),
		p(txt("a2 0 b"), a), p(a, txt("b2 0 a")), p(txt("a 2 0 b"), a), p(a, txt("b 2 0 a")), p(txt("a20b"), a), p(a, txt("b20a")), p(txt("a, b"), a), p(a, txt("b, a")), p(txt("ab"), a), p(a, txt("ba")), p(txt("a\x00b"), a), p(a, txt("b\x00a")),
		p(txt("0"), num(12345678)), p(txt("1123456780")), p(num(1), num(10)), p(num(110), num(0)), p(num(11), num(0)), p(num(1), num(0)), p(txt("110"), num(1)), p(txt("1"), num(101)),
		p(num(leastInt)), p(num(greatestInt)), p(txt("-9223372036854775808")), p(num(1<<32)), p(num(1<<32+1)), p(num(12)), p(num(2)), p(txt("2")), p(num(2), num(0)), p(num(2), txt("")), p(num(20)),
		by(ann, p()), by(ann, p(a)), by(a, p(ann)), p(ann, a), p(a, ann), p(ann), by(txt("ann says p"), p(a)), by(txt("1"), p(num(1))), by(txt("p"), p()), by(txt(" "), p()), by(txt("a b"), p(a)), by(a, p(b, a)),
		atom("p1"), atom("p1", num(1)), atom("p11"), atom("p", num(1), num(1), num(1)), atom("pa"), atom("p_a"), atom("pP"), atom("p1", txt("")), atom(long(32), a), p(txt(long(64))), p(nTimes(8, a)...), p(nTimes(7, a)...), by(ann, p(nTimes(8, a)...)),
	)
}

// TestNew: no clauses, no facts, and nothing that can go.
func TestNew(t *testing.T) {
	w := watch(t)
	w.wantClauses()
	w.wantFacts()
	for _, x := range slices.Concat(nearFacts(), oddAtoms(), atoms(p(v(0)), by(v(0), p()), by(v(0), p(v(1))), p(v(0), v(0)))) {
		w.wantHas(x, false)
		if got := w.k.Answers(x); len(got) != 0 {
			t.Errorf("P17.1: Answers(%v) is %v", x, got)
		}
	}
	for _, text := range texts("p.", "p(a).", "p :- q.", "p(X) :- p(X).", "p(X) :- q(X), X != a.", "ann says p.") {
		w.refuseRemove(clauseOf(t, text), api.ErrNotKept)
	}
	for _, x := range refusals() {
		w.refuseRemove(x.c, x.err)
		w.refuseAdd(x.c, x.err)
	}
	w.add("p :- q.")
	w.wantFacts()
	w.wantClauses("p :- q.")
}

// TestOrderOfClauses: heads, number of body atoms, body atoms, number of tests, tests.
func TestOrderOfClauses(t *testing.T) {
	want := texts(
		"p.", "p :- 1 = 1.", "p :- q.", "p :- q, 1 = 1.", "p :- q, 1 != 1.", "p :- q, 1 = 1, 1 = 1.", "p :- ann says q.", "p :- q, q.",
		"ann says p.", "p(1).", "p(2).", "p(a).", "p(V0) :- q(V0, a).", "p(V0) :- q(V0, V0).", "p(V0) :- q(V0, V1).", "p(V0) :- q(V0, V1), V0 != V1.", "ann says p(1).", "p(1, 1).", "pa.", "q.")
	c := newChosen(1)
	for range 8 {
		k := watch(t)
		for _, i := range c.Perm(len(want)) {
			k.addClause(clauseOf(t, want[i]))
		}
		k.wantClauses(want...)
	}
}

// TestOrderOfFacts: by name, number of arguments, qualifier, arguments.
func TestOrderOfFacts(t *testing.T) {
	c := newChosen(2)
	w := watch(t)
	for _, i := range c.Perm(len(nearFacts())) {
		w.addClause(rule(nearFacts()[i]))
	}
	want := nearFacts()
	slices.SortFunc(want, compareAtoms)
	if got := w.k.Facts(); !same(got, want) {
		t.Errorf("P17.4: the facts are %q, want %q", toldAtoms(got), toldAtoms(want))
	}
}

// TestHas: of each half of the near facts, beside the other half; and of what is no fact.
func TestHas(t *testing.T) {
	l := nearFacts()
	for half := range 2 {
		w := watch(t)
		for i, f := range l {
			if i%2 == half {
				w.addClause(rule(f))
			}
		}
		for i, f := range l {
			w.wantHas(f, i%2 == half)
		}
		for _, x := range oddAtoms() {
			w.wantHas(x, false)
		}
		for _, x := range atoms(p(v(0)), by(v(0), p()), by(v(0), p(a)), by(ann, p(v(0))), p(v(0), v(1)), p(a, v(greatestInt))) {
			w.wantHas(x, false)
		}
	}
}

// TestHasDerived: what was derived, and what isn't any more.
func TestHasDerived(t *testing.T) {
	w := watchOf(t, "p(X) :- q(X), X != b. q(a). q(b). ann says p(X) :- p(X).")
	for text, want := range map[string]int{"p(a)": 1, "p(b)": 0, "q(b)": 1, "ann says p(a)": 1, "ann says p(b)": 0, "bob says p(a)": 0, "X says p(a)": 0, "p(X)": 0} {
		w.wantHas(query(t, text), want == 1)
	}
	w.remove("q(a).", "p(a)", "ann says p(a)", "q(a)")
	for _, text := range texts("p(a)", "q(a)", "ann says p(a)") {
		w.wantHas(query(t, text), false)
	}
	w.wantHas(query(t, "q(b)"), true)
}

// TestAnswers: constants, variables in several places, qualifiers.
func TestAnswers(t *testing.T) {
	w := watchOf(t, "e(a, b). e(b, b). e(b, a). e(1, 1). ann says e(a, a). bob says e(a, ann). ann says e(ann, ann). bob says e(X, Y) :- e(X, Y), X < Y. e. e(a).")
	for text, want := range map[string][]string{
		"e(X, Y)":           texts("e(1, 1)", "e(a, b)", "e(b, a)", "e(b, b)"),
		"e(X, X)":           texts("e(1, 1)", "e(b, b)"),
		"e(b, X)":           texts("e(b, a)", "e(b, b)"),
		"e(X, b)":           texts("e(a, b)", "e(b, b)"),
		"e(a, b)":           texts("e(a, b)"),
		"e(a, a)":           nil,
		"e(c, X)":           nil,
		"e(X, Y, Z)":        nil,
		"e(X)":              texts("e(a)"),
		"e":                 texts("e"),
		"f(X, Y)":           nil,
		"ann says e(X,Y)":   texts("ann says e(a, a)", "ann says e(ann, ann)"),
		"W says e(X, Y)":    texts("ann says e(a, a)", "ann says e(ann, ann)", "bob says e(a, ann)", "bob says e(a, b)"),
		"W says e(X, X)":    texts("ann says e(a, a)", "ann says e(ann, ann)"),
		"W says e(W, X)":    texts("ann says e(ann, ann)"),
		"W says e(X, W)":    texts("ann says e(ann, ann)"),
		"W says e(a, X)":    texts("ann says e(a, a)", "bob says e(a, ann)", "bob says e(a, b)"),
		"carl says e(X, Y)": nil,
		"W says e(X)":       nil,
		"W says e":          nil,
	} {
		asked := query(t, text)
		w.wantAnswers(asked, want...)
		for _, numbers := range [][]int{{2, 1, 0}, {7, 9, 8}, {greatestInt, 0, 1 << 40}} {
			w.wantAnswers(renumbered(asked, numbers...), want...)
		}
	}
}

// renumbered: the atom's variables, which are numbered from 0 on, by other numbers.
func renumbered(x api.Atom, numbers ...int) api.Atom {
	s := values{}
	for i, n := range numbers {
		s[i] = v(n)
	}
	return s.atom(x)
}

// TestAnswersOfAnything: of every near fact as a pattern, with variables put in, and of what is valid nowhere.
func TestAnswersOfAnything(t *testing.T) {
	w := watch(t)
	for _, f := range nearFacts() {
		w.addClause(rule(f))
	}
	facts := w.k.Facts()
	asked := slices.Concat(nearFacts(), oddAtoms())
	for _, f := range nearFacts() {
		for i := range f.Args {
			x := atom(f.Name, slices.Clone(f.Args)...)
			x.Args[i] = v(3)
			asked = append(asked, x, by(f.By, x), by(v(3), x), by(v(greatestInt), x))
		}
	}
	found := 0
	for _, x := range asked {
		got, want := w.k.Answers(x), plainAnswers(facts, x)
		if !same(got, want) {
			t.Errorf("P17.5: Answers(%v) is %q, want %q", x, toldAtoms(got), toldAtoms(want))
		}
		found += len(want)
	}
	if found < 500 {
		t.Errorf("just %d answers", found)
	}
	for _, x := range oddAtoms() {
		if got := w.k.Answers(x); len(got) != 0 {
			t.Errorf("P17.5: Answers(%v) is %q", x, toldAtoms(got))
		}
	}
	w.look(api.Change{})
}
