package subsume_test

import (
	"slices"
	"testing"

	"hearsay/api"
	"hearsay/subsume"
)

// P14.1: Subsumes.

// TestWithoutVariables: the head must be the same, the body and the tests part of the other's, in any order.
func TestWithoutVariables(t *testing.T) {
	for _, c := range texts("p.", "p(a).", "p(1, a, \"\").", "ann says p(b).", "p :- q.", "p :- q, r, 1 < 2.", "p :- q, 2 < 1.") {
		wantValues(t, c, c, "")
	}
	wantValues(t, "p.", "p :- q.", "")
	wantValues(t, "p.", "p :- 2 < 1.", "")
	wantValues(t, "p.", "p :- V0 says q(V1), V1 != a.", "")
	wantValues(t, "p :- q.", "p :- r, q.", "")
	wantValues(t, "p :- r, q.", "p :- q, r.", "")
	wantValues(t, "p :- q, q, q.", "p :- r, q.", "")
	wantValues(t, "p :- q(a), q(b), q(a).", "p :- q(b), q(V0), q(a).", "")
	wantNot(t, "p :- q.", "p.")
	wantNot(t, "p :- q, r.", "p :- q.")
	wantNot(t, "p.", "p(a).")
	wantNot(t, "p.", "q.")
	wantNot(t, "p.", "pp.")
	wantNot(t, "p(a).", "p(b).")
	wantNot(t, "p(1).", "p(\"1\").")
	wantNot(t, "p(a, b).", "p(b, a).")
	wantNot(t, "p.", "ann says p.")
	wantNot(t, "ann says p.", "p.")
	wantNot(t, "ann says p.", "bob says p.")
	wantNot(t, "p :- q.", "p :- q(a).")
	wantNot(t, "p :- q(a).", "p :- q.")
	wantNot(t, "p :- q(a).", "p :- q(b), r(a).")
	wantNot(t, "p :- p.", "p.")
	wantNot(t, "p.", "q :- p.")
}

// TestOneVariableInSeveralPlaces: it becomes one thing; two variables may become one.
func TestOneVariableInSeveralPlaces(t *testing.T) {
	wantValues(t, "p(V0, V0) :- q(V0).", "p(a, a) :- q(a).", "a")
	wantNot(t, "p(V0, V0) :- q(V0).", "p(a, b) :- q(a), q(b).")
	wantValues(t, "p(V0, V1) :- q(V0), q(V1).", "p(a, a) :- q(a).", "a a")
	wantNot(t, "p(V0, V0) :- q(V0).", "p(V0, V1) :- q(V0), q(V1).")
	wantValues(t, "p(V0, V1) :- q(V0), q(V1).", "p(V0, V0) :- q(V0).", "V0 V0")
	wantValues(t, "p :- e(V0, V0).", "p :- e(a, b), e(b, b), e(b, a).", "b")
	wantNot(t, "p :- e(V0, V0).", "p :- e(a, b), e(V0, V1), e(b, a).")
	wantValues(t, "p(V0) :- e(V0, V1), e(V1, V0).", "p(a) :- e(a, b), e(c, a), e(a, c).", "a c")
	wantNot(t, "p(V0) :- e(V0, V1), e(V1, V0).", "p(a) :- e(a, b), e(c, a), e(b, c).")
	wantValues(t, "p :- V0 says q(V0).", "p :- ann says q(bob), bob says q(bob).", "bob")
	wantNot(t, "p :- V0 says q(V0).", "p :- ann says q(bob), bob says q(ann), q(a).")
	wantNot(t, "p :- V0 says q, r(V0).", "p :- ann says q, r(bob).")
}

// TestTheOthersVariables: they stand for themselves, whatever their numbers are, and nothing becomes of them.
func TestTheOthersVariables(t *testing.T) {
	wantValues(t, "p :- q(V0), r(V1).", "p :- r(V0), q(V1).", "V1 V0")
	wantValues(t, "p :- q(V0, V1).", "p :- r(V0), q(V1, V0).", "V1 V0")
	wantValues(t, "p :- q(V0), q(V1).", "p :- r(V0), q(V1).", "V1 V1")
	wantValues(t, "p(V0) :- q(V0, V1).", "p(V0) :- q(V0, V0).", "V0 V0")
	wantNot(t, "p(V0) :- q(V0, V0).", "p(V0) :- q(V0, V1).")
	wantNot(t, "p(a) :- q(V0).", "p(V0) :- q(V0).")
	wantNot(t, "p :- q(a).", "p :- q(V0).")
	wantNot(t, "p :- ann says q.", "p :- V0 says q.")
	wantNot(t, "p(V0) :- q(V0).", "p(a) :- q(V0).")
	wantNot(t, "p :- e(V0, V1), e(V1, V0).", "p :- e(V0, V1), e(V1, V2), e(V2, V0).")
	wantValues(t, "p :- e(V0, V1), e(V1, V2), e(V2, V0).", "p :- e(V0, V0).", "V0 V0 V0")
	wantValues(t, "p(V0, V1, V2) :- e(V0, V1, V2).", "p(V0, V1, V2) :- e(V1, V2, V0), e(V0, V1, V2).", "V0 V1 V2")
}

// leastRow: clauses with several ways, and the least values.
type leastRow struct{ c, d, want string }

// leastRows: none of them is the first that is found when d's atoms are tried as they stand.
func leastRows() []leastRow {
	return []leastRow{
		{"p :- q(V0).", "p :- q(b), q(a).", "a"},
		{"p :- q(V0).", "p :- q(V0), q(a).", "a"},
		{"p :- q(V0).", "p :- q(\"\"), q(\"0\"), q(7), q(-3), q(V0), q(a).", "-3"},
		{"p :- q(V0).", "p :- r(V0, V1), q(V1), q(V0).", "V0"},
		{"p :- V0 says q.", "p :- V0 says q, bob says q, ann says q, q.", "ann"},
		{"p(V0) :- q(V0, V1).", "p(V0) :- q(V0, V1), q(V0, a).", "V0 a"},
		{"p :- e(V0, V1).", "p :- e(b, a), e(a, b), e(a, a).", "a a"},
		{"p :- e(V0, V1), e(V1, V2).", "p :- e(b, a), e(a, b).", "a b a"},
		{"p :- e(V0, V1), e(V2, V0).", "p :- e(a, c), e(b, d), e(c, b), e(d, a), e(c, a).", "a c c"},
		// The least value of V0 can't be had: nothing says q of it.
		{"p :- e(V0, V1), q(V0).", "p :- q(c), e(c, a), q(b), e(b, z), e(a, a).", "b z"},
		{"p :- e(V0, V1), q(V1).", "p :- q(c), e(c, c), e(b, a), e(b, c), e(a, b).", "b c"},
		// The least value of V0 alone counts, however great the others become.
		{"p :- e(V0, V1, V2), q(V2).", "p :- e(b, a, a), e(a, z, z), q(a), q(z).", "a z z"},
		{"p :- q(V0), e(V1, V2).", "p :- q(b), q(a), e(b, a), e(a, b).", "a a b"},
		{"p :- q(V0), V1 says r.", "p :- q(V0), V1 says r, q(a), ann says r.", "a ann"},
		{"p :- q(V0), q(V1), V0 < V1.", "p :- q(c), q(b), q(a).", "a b"},
		{"p :- q(V0), q(V1), V1 < V0.", "p :- q(c), q(b), q(a).", "b a"},
		{"p :- q(V0), V0 != a.", "p :- q(c), q(b), q(a).", "b"},
		{"p :- q(V0), V0 != a.", "p :- q(V0), q(c), q(a), V0 != a.", "c"},
		{"p :- q(V0), q(V1), V0 != V1.", "p :- q(V0), q(V1), q(a), V0 != V1, V0 != a.", "V0 a"},
	}
}

func TestTheLeastValues(t *testing.T) {
	for _, x := range leastRows() {
		wantValues(t, x.c, x.d, x.want)
		if first := firstFound(read(t, x.c), read(t, x.d)); !first.yes || toldTerms(first.vals) == x.want {
			t.Errorf("Subsumes(%s, %s) doesn't tell the first way from the least: %v", x.c, x.d, first)
		}
	}
}

// TestAnyOrderOfTheOthersBody: the values are the same in whatever order d's atoms stand, if its variables keep their numbers.
func TestAnyOrderOfTheOthersBody(t *testing.T) {
	c := read(t, "p :- e(V0, V1), e(V1, V2), V3 says q(V2), V0 != V2.")
	d := read(t, "p :- r(V0, V1), e(a, b), e(b, V0), e(V0, V1), e(V1, a), ann says q(V0), V1 says q(V1), V0 != V1, V1 != V0, a != V0, a != V1.")
	want := plainSubsumes(c, d)
	if !want.yes || toldTerms(want.vals) != "a b V0 ann" {
		t.Fatalf("the plain version has %v", want)
	}
	chance := newChosen(1)
	for range 300 {
		mixed := d
		mixed.Body = append(atoms(d.Body[0]), chance.mixedAtoms(d.Body[1:])...)
		if got := subsumes(c, mixed); !got.same(want) {
			t.Errorf("P14.1: of %q: %v, want %v", told(rules(mixed)), got, want)
		}
	}
}

// TestAtomsThatBecomeOne: several atoms of c become one of d's, and c may have more than d has.
func TestAtomsThatBecomeOne(t *testing.T) {
	wantValues(t, "p :- q(V0), q(V1).", "p :- q(V0).", "V0 V0")
	wantValues(t, "p :- q(V0), q(V1), q(V2), q(a).", "p :- q(a).", "a a a")
	wantValues(t, "p(V0) :- e(V0, V1), e(V1, V2), e(V2, V0).", "p(a) :- e(a, a).", "a a a")
	wantValues(t, "p :- V0 says q, V1 says q, ann says q.", "p :- ann says q.", "ann ann")
	wantValues(t, "p :- e(V0, a), e(a, V0), e(V1, V1).", "p :- e(a, a), e(b, b).", "a a")
	wantNot(t, "p :- e(V0, a), e(b, V1).", "p :- e(a, a).")
	wantValues(t, "p :- e(V0, a), e(b, V1).", "p :- e(b, a).", "b a")
	wantValues(t, "p :- q(V0), q(V1), q(V2), q(V3), q(V4), q(V5), q(V6), q(V7).", "p :- q(V0).", "V0 V0 V0 V0 V0 V0 V0 V0")
	// d has atoms twice.
	wantValues(t, "p :- q(V0), q(V1).", "p :- q(b), q(a), q(b), q(a).", "a a")
}

// TestQualifiers: none, a text, a variable; numbers stand as arguments only.
func TestQualifiers(t *testing.T) {
	wantValues(t, "p :- q.", "p :- ann says q, q.", "")
	wantNot(t, "p :- q.", "p :- ann says q, V0 says q.")
	wantNot(t, "p :- ann says q.", "p :- q, bob says q, V0 says q.")
	wantValues(t, "p :- V0 says q.", "p :- q, bob says q.", "bob")
	wantNot(t, "p :- V0 says q.", "p :- q.")
	wantValues(t, "p :- V0 says q.", "p :- q, r(a), V0 says q.", "V0")
	wantValues(t, "p(V0) :- V0 says q.", "p(ann) :- ann says q, bob says q.", "ann")
	wantValues(t, "p(V0) :- V0 says q.", "p(V0) :- V0 says q.", "V0")
	wantNot(t, "p(V0) :- V0 says q.", "p(5) :- ann says q, q.")
	wantNot(t, "p(V0) :- V0 says q, r(V0).", "p(5) :- ann says q, r(5).")
	wantNot(t, "p(V0) :- V0 says q, r(V0).", "p(\"\") :- q, r(\"\").")
	wantValues(t, "p :- V0 says q, V0 says r.", "p :- bob says q, bob says r, ann says q.", "bob")
	wantNot(t, "p :- V0 says q, V0 says r.", "p :- bob says r, ann says q.")
	wantValues(t, "ann says p :- V0 says p.", "ann says p :- ann says p.", "ann")
	wantNot(t, "ann says p :- V0 says p.", "bob says p :- ann says p.")
	wantNot(t, "p :- V0 says q.", "ann says p :- V0 says q.")
	// A qualifier in d that is a number isn't valid.
	wantNotSubsumed(t, read(t, "p :- V0 says q."), rule(p(), by(num(5), q())))
	wantNotSubsumed(t, read(t, "p :- V0 says q."), rule(p(), by(txt(""), q())))
	wantNotSubsumed(t, read(t, "p :- V0 says q(V1)."), rule(p(), by(num(0), q(a)), q(a)))
}

// TestTestsAmongTheOthers: a test that isn't decided must be one of d's, side by side and with the same operator.
func TestTestsAmongTheOthers(t *testing.T) {
	wantValues(t, "p :- q(V0), V0 < a.", "p :- q(V0), V0 != b, V0 < a.", "V0")
	wantValues(t, "p :- e(V0, V1), V0 < V1.", "p :- e(V0, V1), V0 < V1.", "V0 V1")
	wantNot(t, "p :- e(V0, V1), V0 < V1.", "p :- e(V0, V1), V1 < V0.")
	wantNot(t, "p :- e(V0, V1), V0 = V1.", "p :- e(V0, V1), V1 = V0.")
	wantNot(t, "p :- q(V0), V0 != a.", "p :- q(V0), a != V0.")
	wantNot(t, "p :- q(V0), V0 <= a.", "p :- q(V0), V0 < a.")
	wantNot(t, "p :- q(V0), V0 <= a.", "p :- q(V0), V0 = a.")
	wantNot(t, "p :- q(V0), V0 = V0.", "p :- q(V0).")
	wantNot(t, "p :- q(V0), V0 <= V0.", "p :- q(V0), V0 = V0.")
	wantValues(t, "p :- q(V0), V0 = V0.", "p :- q(V0), V0 = V0.", "V0")
	wantValues(t, "p :- q(V0), V0 = V0.", "p :- q(V0), q(1).", "1")
	wantNot(t, "p :- q(V0), V0 != a.", "p :- q(V0), V0 != b.")
	wantNot(t, "p :- q(V0), V0 < 1.", "p :- q(V0), V0 < \"1\".")
	wantValues(t, "p :- q(V0), q(V1), V0 != a, V1 != a.", "p :- q(V0), V0 != a.", "V0 V0")
	wantValues(t, "p :- e(V0, V1), V0 < a, V1 < a.", "p :- e(V0, V0), V0 < a.", "V0 V0")
	wantValues(t, "p :- q(V0), r(V1), V0 < V1.", "p :- r(V0), q(V1), V1 < V0.", "V1 V0")
	wantNot(t, "p :- q(V0), r(V1), V0 < V1.", "p :- r(V0), q(V1), V0 < V1.")
	wantNot(t, "p :- q(V0), V0 < a.", "p :- q(V0).")
	wantNot(t, "p :- q(V0), a < V0.", "p :- q(V0), a < b.")
}

// TestTestsThatAreDecided: all four operators, on numbers, texts and both, the same and different.
func TestTestsThatAreDecided(t *testing.T) {
	ops := []string{"=", "!=", "<", "<="}
	rising := []string{"-1", "0", "10", "\"\"", "\"10\"", "a", "ab", "b"}
	for i, l := range rising {
		for k, r := range rising {
			hold := []bool{i == k, i != k, i < k, i <= k}
			for n, op := range ops {
				c, d := "p :- e(V0, V1), V0 "+op+" V1.", "p :- e("+l+", "+r+")."
				if hold[n] {
					wantValues(t, c, d, l+" "+r)
					wantValues(t, "p :- "+l+" "+op+" "+r+".", "p.", "")
					wantValues(t, "p(V0) :- q(V0), V0 "+op+" "+r+".", "p("+l+") :- q("+l+").", l)
				} else {
					wantNot(t, c, d)
					wantNot(t, "p :- "+l+" "+op+" "+r+".", "p.")
					wantNot(t, "p(V0) :- q(V0), V0 "+op+" "+r+".", "p("+l+") :- q("+l+").")
				}
				// It is among d's tests, whether it holds or not.
				wantValues(t, c, "p :- e("+l+", "+r+"), "+l+" "+op+" "+r+".", l+" "+r)
			}
		}
	}
	wantNot(t, "p :- 2 < 1.", "p :- 3 < 1.")
	wantNot(t, "p :- q(V0), V0 < 1.", "p :- q(2), 3 < 1.")
	wantValues(t, "p :- q(V0), V0 < 1.", "p :- q(2), 2 < 1.", "2")
}

// TestTestsChooseTheWay: a later way is taken if the first one's tests fail, with tests of variables that come in at the head, amid the body, and at its end.
func TestTestsChooseTheWay(t *testing.T) {
	d := "p(b) :- q(a), q(b), q(c), q(d)."
	wantValues(t, "p(V0) :- q(V1), q(V0), V0 < V1.", d, "b c")
	wantValues(t, "p(V0) :- q(V1), q(V0), V1 < V0.", d, "b a")
	wantNot(t, "p(V0) :- q(V1), q(V0), V1 < V0, b <= V1.", d)
	wantNot(t, "p(V0) :- q(V0), V0 < b.", d)
	wantValues(t, "p(V0) :- q(V0), q(V1), q(V2), q(V3), V1 < V2, V2 < V3, V0 != V2.", d, "b a c d")
	wantValues(t, "p(V0) :- q(V0), q(V1), q(V2), q(V3), V3 < V2, V2 < V1, V1 != d.", d, "b c b a")
	wantNot(t, "p(V0) :- q(V0), q(V1), q(V2), q(V3), V3 < V2, V2 < V1, V1 < V0.", d)
	wantValues(t, "p(V0) :- q(V0), q(V1), q(V2), q(V3), q(V4), V1 < V2, V2 < V3, V3 < V4.", d, "b a b c d")
	wantNot(t, "p(V0) :- q(V0), q(V1), q(V2), q(V3), q(V4), V1 < V2, V2 < V3, V3 < V4, V4 < d.", d)
}

// TestBackOverRows: the row that can't become anything has nothing to do with the rows just ahead of it, and the one that must become something else stands far ahead; another one in between is to blame too.
func TestBackOverRows(t *testing.T) {
	free := "f(V1), f(V2), f(V3)"
	d := "p :- e(a, b), e(b, c), e(c, a), g(c), f(z), f(y), g(V0)."
	wantValues(t, "p :- e(V0, V1), f(V2), f(V3), f(V4), g(V1).", d, "b c y y y")
	wantValues(t, "p :- e(V0, V1), f(V2), e(V3, V0), f(V4), g(V3).", d, "a b y c y")
	wantValues(t, "p :- e(V0, V1), f(V2), e(V1, V3), f(V4), g(V3).", d, "a b y c y")
	wantValues(t, "p :- e(V0, V1), e(V2, V3), f(V4), g(V3), g(V1).", d, "b c b c y")
	wantNot(t, "p :- g(V0), "+free+", e(V0, V0).", d)
	wantNot(t, "p :- f(V0), "+free+", g(V0).", d)
	wantValues(t, "p :- f(V0), f(V1), f(V2), f(V3), V3 < V0.", d, "z y y y")
	wantValues(t, "p :- f(V0), f(V1), f(V2), f(V3), V3 < V0, V1 != y.", d, "z z y y")
	wantValues(t, "p :- f(V0), f(V1), f(V2), f(V3), V3 < V1, V3 < V0, V2 < V1.", d, "z z y y")
	wantNot(t, "p :- f(V0), f(V1), f(V2), f(V3), V3 < V1, V3 < V0, V0 < V1.", d)
	// The fourth row sends back to the second, which sends back to the first for the third's sake as well.
	wantNot(t, "p :- e(V0, V1), e(V2, V3), f(V4), e(V3, V0), e(V1, V2).", d)
	wantValues(t, "p :- e(V0, V1), e(V2, V3), f(V4), e(V3, V0), V1 != b.", d, "b c c a y")
	wantValues(t, "p :- e(V0, V1), e(V2, V3), f(V4), e(V1, V2), g(V3), V4 != y.", d, "c a b c z")
}

// refused: a clause, and Check's error of it.
type refused struct {
	c   api.Clause
	err api.Errno
}

// refusals: every error of Check's, wherever it comes from.
func refusals() []refused {
	ok := rule(p(v(0)), q(v(0)))
	return []refused{
		{rule(p(), nTimes(9, q())...), api.ErrBody},
		{with(ok, nTimes(9, test(api.OpEq, a, a))...), api.ErrBody},
		{rule(by(ann, atom("z")), nTimes(1000, q())...), api.ErrBody},
		{api.Clause{}, api.ErrName},
		{rule(atom("says")), api.ErrName},
		{rule(by(ann, p()), q(), atom(long(33))), api.ErrName},
		{rule(p(nTimes(9, a)...)), api.ErrArity},
		{rule(by(ann, atom("b")), q(), q(nTimes(9, v(0))...)), api.ErrArity},
		{rule(by(num(5), p())), api.ErrBy},
		{rule(by(txt(""), p())), api.ErrBy},
		{rule(by(ann, p()), by(txt(""), q())), api.ErrBy},
		{rule(atom("y"), q(), by(v(-1), q())), api.ErrBy},
		{rule(p(none)), api.ErrTerm},
		{rule(by(ann, p(a)), q(a, txt(long(65)))), api.ErrTerm},
		{rule(p(a), q(v(leastInt))), api.ErrTerm},
		{rule(p(a), q(api.Term{Kind: api.KindVar, S: "x"})), api.ErrTerm},
		{with(ok, test(0, a, a)), api.ErrTest},
		{with(ok, test(5, a, a)), api.ErrTest},
		{with(rule(by(ann, p(v(0))), q(v(0))), test(api.OpEq, a, a), test(api.OpEq, v(0), none)), api.ErrTest},
		{rule(by(v(0), p(v(0))), q(v(0))), api.ErrHead},
		{rule(p(v(0))), api.ErrSafe},
		{rule(by(ann, p(v(0)))), api.ErrSafe},
		{with(ok, test(api.OpNe, v(0), v(1))), api.ErrSafe},
		{with(rule(p()), test(api.OpNe, v(0), a)), api.ErrSafe},
		{rule(p(v(1)), q(v(1))), api.ErrNumbering},
		{rule(p(), q(v(1)), q(v(0))), api.ErrNumbering},
		{rule(by(ann, atom("x")), q(v(greatestInt))), api.ErrNumbering},
	}
}

// TestClausesThatAreNotValid: on either side, on both, and against themselves; also where all but that is part of the other.
func TestClausesThatAreNotValid(t *testing.T) {
	ok := readAll(t, "p.", "p(a).", "p(V0) :- q(V0).", "p(V0) :- q(V0), q(V1).", "ann says p(V0) :- q(V0).", "p :- q.", "p(a) :- q(V0).")
	for _, x := range refusals() {
		for _, c := range ok {
			wantNotSubsumed(t, x.c, c)
			wantNotSubsumed(t, c, x.c)
			wantNotSubsumed(t, rule(x.c.Head), x.c)
		}
		for _, y := range refusals() {
			wantNotSubsumed(t, x.c, y.c)
		}
	}
	less := read(t, "p(V0) :- q(V0).")
	wantNotSubsumed(t, less, rule(p(v(0)), append(nTimes(8, atom("r")), q(v(0)))...))
	wantSubsumed(t, "P14.1", less, rule(p(v(0)), append(nTimes(7, atom("r")), q(v(0)))...))
	wantNotSubsumed(t, less, with(less, nTimes(9, test(api.OpEq, v(0), v(0)))...))
	wantSubsumed(t, "P14.1", less, with(less, nTimes(8, test(api.OpEq, v(0), v(0)))...))
	wantNotSubsumed(t, rule(p(v(1)), q(v(1))), less)
	wantNotSubsumed(t, less, rule(p(v(7)), q(v(7))))
}

// shown: what the pairs by chance show.
type shown struct{ yes, no, ways, first, vars, decided, found int }

func (s *shown) take(c, d api.Clause, want answer) {
	s.yes += count(want.yes)
	s.no += count(!want.yes)
	if !want.yes {
		return
	}
	n := 0
	for range allValues(c, d) {
		n++
	}
	s.ways += count(n > 1)
	s.first += count(!firstFound(c, d).same(want))
	s.vars += count(slices.ContainsFunc(want.vals, variable))
	for _, x := range instance(c, want.vals).Tests {
		s.decided += count(holds(x) && !slices.Contains(d.Tests, x))
		s.found += count(slices.Contains(d.Tests, x) && !holds(x))
	}
}

// TestByChance: many pairs beside the plain version that tries all values.
func TestByChance(t *testing.T) {
	var s shown
	c := newChosen(14)
	for range 20000 {
		x, y := c.pair(4, 3)
		want := plainSubsumes(x, y)
		if got := subsumes(x, y); !got.same(want) {
			t.Errorf("P14.1: Subsumes(%q, %q) is %v, want %v", told(rules(x)), told(rules(y)), got, want)
		}
		s.take(x, y, want)
	}
	if s.yes < 6000 || s.no < 6000 || s.ways < 800 || s.first < 300 || s.vars < 3000 || s.decided < 600 || s.found < 1500 {
		t.Errorf("too much alike: %+v", s)
	}
}

// TestManyVariablesByChance: clauses with many atoms and variables beside the plain version that tries all places; that one beside the other on small ones.
func TestManyVariablesByChance(t *testing.T) {
	c := newChosen(15)
	for range 1000 {
		if x, y := c.pair(3, 3); !leastFound(x, y).same(plainSubsumes(x, y)) {
			t.Fatalf("the plain versions differ: %q, %q", told(rules(x)), told(rules(y)))
		}
	}
	yes, no, most := 0, 0, 0
	for range 3000 {
		x, y := c.pair(6, 2+c.Intn(7))
		want := leastFound(x, y)
		if got := subsumes(x, y); !got.same(want) {
			t.Errorf("P14.1: Subsumes(%q, %q) is %v, want %v", told(rules(x)), told(rules(y)), got, want)
		}
		yes, no, most = yes+count(want.yes), no+count(!want.yes), max(most, len(want.vals))
	}
	if yes < 500 || no < 500 || most < 5 {
		t.Errorf("too much alike: %d, %d, %d", yes, no, most)
	}
}

// TestAsManyAsItHas: a value for each variable of c, whatever d has.
func TestAsManyAsItHas(t *testing.T) {
	wide := rule(p())
	for i := range 8 {
		x := by(v(9*i), q())
		for k := range 8 {
			x.Args = append(x.Args, v(9*i+k+1))
		}
		wide.Body = append(wide.Body, x)
	}
	for n := range 9 {
		c := rule(p(), wide.Body[:n]...)
		vals, yes := subsume.Subsumes(c, rule(p(), by(ann, q(nTimes(8, a)...))))
		if len(vals) != 9*n || !yes || slices.ContainsFunc(vals, func(t api.Term) bool { return t != a && t != ann }) {
			t.Errorf("P14.1: %d atoms: %v, %v", n, vals, yes)
		}
		if vals, yes := subsume.Subsumes(c, wide); len(vals) != 9*n || !yes || n > 0 && !slices.Equal(vals, slices.Repeat(columns(wide.Body[0]), n)) {
			t.Errorf("P14.1: %d atoms: %v, %v", n, vals, yes)
		}
	}
}
