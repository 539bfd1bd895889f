package proof_test

import (
	"strconv"
	"strings"
	"testing"

	"hearsay/api"
	"hearsay/proof"
	"hearsay/syntax"
)

// P11.2, P11.4, P11.5: Facts, Depth and Text, of derivations of every kind.

func TestFactsOfSteps(t *testing.T) {
	rs := rules(rule(p(v(0), v(1), v(0)), q(v(2))), rule(by(v(1), q(v(0), a, v(2)))), api.Clause{}, with(rule(by(odd, atom("P", none, v(-1)))), test(9, a, b)))
	wantFacts(t, api.Proof{})
	wantFacts(t, derivation(rs))
	wantFacts(t, derivation(rs,
		step(0, terms(a, b)), step(0, terms(a)), step(0, nil), step(0, terms(a, b, c, odd)), step(0, terms(v(1), v(0))), step(0, terms(none, odd), 7, -1),
		step(1, terms(num(1), ann, c)), step(1, terms(num(1))), step(2, terms(a)), step(3, terms(a, b)),
	),
		p(a, b, a), p(a, v(1), a), p(v(0), v(1), v(0)), p(a, b, a), p(v(1), v(0), v(1)), p(none, odd, none),
		by(ann, q(num(1), a, c)), by(v(1), q(num(1), a, v(2))), api.Atom{}, by(odd, atom("P", none, v(-1))))
	// Steps whose Rule is no place; those behind them are told all the same.
	for _, n := range []int{leastInt, -2, -1, len(rs), len(rs) + 1, 1 << 32, greatestInt} {
		wantFacts(t, derivation(rs, step(n, terms(a)), step(0, terms(a, b)), step(n, nil, 0, 1), step(1, terms(a, b, c))), api.Atom{}, p(a, b, a), api.Atom{}, by(b, q(a, a, c)))
	}
	wantFacts(t, derivation(nil, step(0, terms(a)), step(0, nil)), api.Atom{}, api.Atom{})
}

func TestDepthOfSteps(t *testing.T) {
	wantDepth(t, 0)
	wantDepth(t, 1, step(0, nil))
	wantDepth(t, 1, step(0, nil), step(0, nil), step(7, nil))
	wantDepth(t, 2, step(0, nil), step(0, nil, 0))
	wantDepth(t, 2, step(0, nil), step(0, nil, 0), step(0, nil, 0), step(0, nil))
	wantDepth(t, 3, step(0, nil), step(0, nil, 0), step(0, nil, 1))
	// The greatest needn't be the last one's, nor the first use's, nor the last use's.
	wantDepth(t, 3, step(0, nil), step(0, nil, 0), step(0, nil, 1), step(0, nil, 0), step(0, nil))
	wantDepth(t, 4, step(0, nil), step(0, nil, 0), step(0, nil, 1), step(0, nil, 2, 0, 1))
	wantDepth(t, 4, step(0, nil), step(0, nil, 0), step(0, nil, 1), step(0, nil, 0, 2, 1))
	wantDepth(t, 4, step(0, nil), step(0, nil, 0), step(0, nil, 1), step(0, nil, 1, 0, 2))
	// Doubles, itself, later ones, numbers far off.
	wantDepth(t, 2, step(0, nil), step(0, nil, 0, 0, 0))
	wantDepth(t, 1, step(0, nil, 0))
	wantDepth(t, 1, step(0, nil, 1), step(0, nil, 2), step(0, nil, 3))
	wantDepth(t, 2, step(0, nil, 1), step(0, nil, 0, 1))
	for _, far := range []int{leastInt, -1 << 32, -3, -2, -1, 3, 4, 1 << 32, greatestInt} {
		wantDepth(t, 1, step(0, nil, far))
		wantDepth(t, 3, step(0, nil, far), step(0, nil, far, 0), step(0, nil, 1, far))
		wantDepth(t, 2, step(0, nil), step(0, nil, far), step(0, nil, far, 1))
	}
}

func TestDepthByChance(t *testing.T) {
	most := 0
	for seed := range int64(5000) {
		c := newChosen(seed)
		of := c.derivation()
		if c.once(2) {
			c.spoil(&of)
			c.spoil(&of)
		}
		want := plainDepth(of)
		if got := proof.Depth(of); got != want {
			t.Errorf("P11.4: Depth of %v is %d, want %d", of, got, want)
		}
		most = max(most, want)
	}
	if most < 6 {
		t.Errorf("the derivations by chance are too much alike: none is deeper than %d", most)
	}
}

func TestTextOfSteps(t *testing.T) {
	wantText(t, api.Proof{})
	wantText(t, derivation(rules(rule(p(a)))))
	rs := append(readAll(t, `ann says p(V0, "x y") :- V1 says q(V0), V0 != "", 1 < 2.`, "q(-7)."),
		rule(p(v(0))), rule(atom("P")), rule(p(none)), rule(by(v(0), p(a)), q(v(0))), rule(p(v(1)), q(v(1))), rule(p(a), api.Atom{}), api.Clause{})
	wantText(t, derivation(rs, step(0, terms(a, b), 7), step(0, nil, 0, 0), step(0, terms(txt("A"), none)), step(0, terms(none)), step(1, terms(a)), step(1, nil, -1, leastInt, greatestInt, 10)),
		`0. ann says p(a, "x y") by ann says p(V0, "x y") :- V1 says q(V0), V0 != "", 1 < 2. from 7`,
		`1. ann says p(V0, "x y") by ann says p(V0, "x y") :- V1 says q(V0), V0 != "", 1 < 2. from 0, 0`,
		`2. ann says p("A", "x y") by ann says p(V0, "x y") :- V1 says q(V0), V0 != "", 1 < 2.`,
		`3. ? by ann says p(V0, "x y") :- V1 says q(V0), V0 != "", 1 < 2.`,
		`4. q(-7) by q(-7).`,
		`5. q(-7) by q(-7). from -1, -9223372036854775808, 9223372036854775807, 10`)
	// Rules that aren't valid; the fact may have a text all the same.
	wantText(t, derivation(rs, step(2, terms(a)), step(2, nil), step(3, nil), step(4, nil), step(5, terms(ann)), step(5, nil), step(5, terms(num(1))), step(6, terms(a, b)), step(7, nil, 3), step(8, nil)),
		"0. p(a) by ?", "1. p(V0) by ?", "2. ? by ?", "3. ? by ?", "4. ann says p(a) by ?", "5. V0 says p(a) by ?", "6. ? by ?", "7. p(b) by ?", "8. p(a) by ? from 3", "9. ? by ?")
	// No such rule.
	for _, n := range []int{leastInt, -1, len(rs), greatestInt} {
		wantText(t, derivation(rs, step(n, terms(a)), step(1, nil, 0), step(n, nil, 1, -2)), "0. ? by ?", "1. q(-7) by q(-7). from 0", "2. ? by ? from 1, -2")
	}
	wantText(t, derivation(nil, step(0, nil)), "0. ? by ?")
}

// TestTextOfManySteps: numbers of more than one digit, one line for each step.
func TestTextOfManySteps(t *testing.T) {
	of := derivation(rules(rule(p(v(0)), q(v(0))), rule(p(txt("%\n")))))
	var want strings.Builder
	of.Steps = append(of.Steps, step(1, nil))
	want.WriteString("0. p(\"%\\n\") by p(\"%\\n\").\n")
	for n := 1; n < 1200; n++ {
		of.Steps = append(of.Steps, step(0, terms(num(n)), n-1, 1000*n))
		want.WriteString(strconv.Itoa(n) + ". p(" + strconv.Itoa(n) + ") by p(V0) :- q(V0). from " + strconv.Itoa(n-1) + ", " + strconv.Itoa(1000*n) + "\n")
	}
	if got := proof.Text(of); got != want.String() {
		t.Errorf("P11.5: Text of 1200 steps has %d bytes, want %d; it begins with\n%.200s", len(got), want.Len(), got)
	}
}

// TestTellsByChance: Facts and Text of any derivations, beside the plain version and the texts of chapter 5.
func TestTellsByChance(t *testing.T) {
	for seed := range int64(5000) {
		of := newChosen(seed).derivation()
		facts := plainFacts(of)
		wantFacts(t, of, facts...)
		var lines []string
		for i, s := range of.Steps {
			line := strconv.Itoa(i) + ". " + orQuestion(syntax.PrintAtom(facts[i])) + " by "
			if place(s.Rule, len(of.Rules)) {
				line += orQuestion(syntax.Print(of.Rules[s.Rule]))
			} else {
				line += "?"
			}
			for k, u := range s.Uses {
				line += []string{" from ", ", "}[min(k, 1)] + strconv.Itoa(u)
			}
			lines = append(lines, line)
		}
		wantText(t, of, lines...)
	}
}

func orQuestion(s string) string { return strings.Repeat("?", max(0, 1-len(s))) + s }
