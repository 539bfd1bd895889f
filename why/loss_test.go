package why_test

import (
	"slices"
	"testing"

	"hearsay/api"
	"hearsay/why"
)

// P13.3, P13.4, P13.6: Without and Loss.

// TestWithout: in order, none twice, and whatever ann says in bodies stays.
func TestWithout(t *testing.T) {
	cs := readAll(t, "ann says z.", "z.", "bob says z :- ann says z.", "ann says a :- bob says z.", "z.", "a(V0) :- V0 says z.", "ann says z.", "ann says z :- z.")
	wantWithout(t, cs, "ann", cs[5], cs[1], cs[2])
	wantWithout(t, cs, "bob", cs[3], cs[5], cs[1], cs[0], cs[7])
	all := []api.Clause{cs[3], cs[5], cs[1], cs[0], cs[7], cs[2]}
	for _, u := range texts("", "Ann", "an", "anna", " ann", "ann\x00", "z", "V0", long(65)) {
		wantWithout(t, cs, u, all...)
	}
	wantWithout(t, nil, "ann")
	wantWithout(t, nil, "")
	wantWithout(t, cs[:1], "ann")
}

// oddQualifiers: of every kind, with the text ann and without; just one is the text ann.
func oddQualifiers() []api.Term {
	return terms(none, ann, bob, txt(""), txt(long(64)), txt(long(65)), num(0), num(5), v(0), v(7), v(-1),
		api.Term{S: "ann"}, api.Term{Kind: api.KindNum, S: "ann"}, api.Term{Kind: api.KindVar, S: "ann"}, api.Term{Kind: 9, S: "ann"}, api.Term{Kind: -1, S: "ann"},
		api.Term{Kind: api.KindText, N: 1, S: "ann"}, api.Term{Kind: api.KindText, N: -1, S: "ann"}, api.Term{Kind: api.KindText, N: leastInt, S: "ann"},
		api.Term{Kind: api.KindText, N: 1}, api.Term{Kind: greatestInt}, api.Term{Kind: leastInt, N: greatestInt})
}

// TestWithoutOfAnything: heads whose qualifier is a number, a variable, none or a term that is valid nowhere; u of any text.
func TestWithoutOfAnything(t *testing.T) {
	var cs []api.Clause
	for _, who := range oddQualifiers() {
		cs = append(cs, rule(by(who, p())), rule(by(who, atom("Says", none)), q(), by(ann, q(v(5)))))
	}
	cs = append(cs, clausesOf(refusals())...)
	for _, u := range somebodies() {
		want := plainWithout(cs, u)
		for seed := range int64(5) {
			wantWithout(t, newChosen(seed).doubled(cs), u, want...)
		}
		for _, c := range setOf(cs) {
			isLeft := hasClause(want, c)
			if isLeft == (c.Head.By == txt(u)) {
				t.Errorf("%q and %v", u, c)
			}
			wantWithout(t, rules(c, c), u, slices.DeleteFunc(rules(c), func(api.Clause) bool { return !isLeft })...)
		}
	}
	wantWithout(t, rules(rule(by(txt(""), p())), rule(p())), "", rule(p()))
}

// TestLoss: what u says; what follows by u's clauses alone; what follows another way too; what others say by way of a variable.
func TestLoss(t *testing.T) {
	says := readAll(t, "ann says p(a).", "bob says p(a).", "p(a).", "ann says p(b).", "p(c) :- p(a).")
	wantLoss(t, says, "ann", "ann says p(a)", "ann says p(b)")
	wantLoss(t, says, "bob", "bob says p(a)")
	wantLoss(t, says, "carl")

	chain := readAll(t, "ann says q.", "r :- ann says q.", "s :- r.", "t :- s.", "t :- u.", "u.")
	wantLoss(t, chain, "ann", "ann says q", "r", "s")
	wantLoss(t, allBut(chain, 5), "ann", "ann says q", "r", "s", "t")
	wantLoss(t, allBut(chain, 0), "ann")

	// ann says it by bob's leave: without bob it is lost as well, and with another leave it isn't.
	leave := readAll(t, "ann says p(V0) :- bob says may(V0).", "bob says may(a).", "bob says may(b).", "may(b).", "ann says p(V0) :- may(V0).")
	wantLoss(t, leave, "bob", "bob says may(a)", "bob says may(b)", "ann says p(a)")
	wantLoss(t, leave, "ann", "ann says p(a)", "ann says p(b)")

	// A qualifier that is a variable takes whoever is left.
	any := readAll(t, "p(V0) :- V1 says q(V0).", "ann says q(a).", "bob says q(a).", "ann says q(b).", "two :- V0 says q(a), V1 says q(a), V0 != V1.", "who(V0) :- V0 says q(V1).")
	wantLoss(t, any, "ann", "p(b)", "ann says q(a)", "ann says q(b)", "two", "who(ann)")
	wantLoss(t, any, "bob", "bob says q(a)", "two", "who(bob)")

	// A ring that ann holds up goes as a whole; one that has another hold stays.
	ring := readAll(t, "p :- q.", "q :- p.", "p :- ann says go.", "ann says go.")
	wantLoss(t, ring, "ann", "ann says go", "p", "q")
	wantLoss(t, append(ring, rule(q())), "ann", "ann says go")
}

// TestLossOfAll: of no clauses, of ann's alone, and of names that are no principals'.
func TestLossOfAll(t *testing.T) {
	for _, u := range somebodies() {
		wantLoss(t, nil, u)
		wantLoss(t, readAll(t, "p.", "q(V0) :- r(V0)."), u)
	}
	cs := readAll(t, "ann says p(2).", "ann says p(10).", "ann says p(\"\").", "ann says o(V0) :- ann says p(V0).")
	wantLoss(t, cs, "ann", "ann says o(2)", "ann says o(10)", "ann says o(\"\")", "ann says p(2)", "ann says p(10)", "ann says p(\"\")")
	for _, u := range texts("bob", "", "Ann", "ann ", "p", long(65)) {
		wantLoss(t, cs, u)
	}
}

// TestLossByChance: of 500 programs beside the plain version, and P13.6 as it stands.
func TestLossByChance(t *testing.T) {
	lost, others, kept := 0, 0, 0
	for seed := range int64(500) {
		cs := newChosen(seed).program()
		model := plainModel(cs).inOrder()
		for _, u := range texts("ann", "bob", "a", "") {
			want := plainLoss(cs, u)
			wantLoss(t, cs, u, toldFacts(want)...)
			got, _ := why.Loss(cs, u)
			left := why.Without(cs, u)
			if !sameClauses(left, plainWithout(cs, u)) {
				t.Errorf("P13.3: Without(%q, %q) is %q", told(cs), u, told(left))
			}
			stay := plainModel(left)
			lost += len(want)
			for _, f := range model {
				goes := slices.ContainsFunc(got, func(x api.Atom) bool { return sameAtom(x, f) })
				if !goes && f.By == txt(u) || goes == stay.has(f) {
					t.Errorf("P13.6: Loss(%q, %q) is %q; is %v lost?", told(cs), u, toldFacts(got), f)
				}
				others += count(goes && f.By != txt(u))
				kept += count(!goes && u == "ann")
			}
		}
	}
	if lost < 600 || others < 60 || kept < 1000 {
		t.Errorf("too much alike: %d facts are lost, %d of them not said by who isn't believed; %d are kept", lost, others, kept)
	}
}
