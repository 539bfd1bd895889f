package proof_test

import (
	"slices"
	"testing"

	"hearsay/api"
	"hearsay/proof"
)

// P11.3, P11.7: Trim.

// TestWhatIsNotLaidStays: in each way, at each step; however much could be trimmed.
func TestWhatIsNotLaidStays(t *testing.T) {
	rs := rules(rule(q(a)), rule(p(a)), rule(p(a)), rule(r(v(0))))
	laid := []api.Step{step(0, nil), step(1, nil), step(2, nil), step(3, terms(a), 0, 1), step(0, nil, 3), step(3, terms(a), 2)}
	wantTrim(t, derivation(rs, laid...), derivation(rules(rs[1], rs[0], rs[3]), step(1, nil), step(0, nil), step(2, terms(a), 0, 1)))
	stays := func(of api.Proof) { t.Helper(); wantTrim(t, of, of) }
	stays(api.Proof{})
	stays(derivation(rs))
	stays(derivation(nil, laid...))
	for n := range laid {
		spoilt := func(s api.Step) {
			t.Helper()
			l := slices.Clone(laid)
			l[n] = s
			stays(derivation(rs, l...))
		}
		for _, place := range []int{leastInt, -2, -1, len(rs), len(rs) + 1, 1 << 32, greatestInt} {
			spoilt(step(place, laid[n].Vals, laid[n].Uses...))
			spoilt(step(place, nil))
		}
		for _, u := range []int{leastInt, -2, -1, n, n + 1, n + 2, len(laid), 77, 1 << 32, greatestInt} {
			spoilt(step(laid[n].Rule, laid[n].Vals, u))
			spoilt(step(laid[n].Rule, laid[n].Vals, append(slices.Clone(laid[n].Uses), u)...))
			spoilt(step(laid[n].Rule, laid[n].Vals, append(uses(u), laid[n].Uses...)...))
		}
	}
}

// TestEdgesOfLaid: the last rule, and the step just ahead.
func TestEdgesOfLaid(t *testing.T) {
	rs := rules(rule(p(a)), rule(p(b)), rule(p(c)))
	wantTrim(t, derivation(rs, step(2, nil)), derivation(rs[2:], step(0, nil)))
	wantTrim(t, derivation(rs, step(0, nil), step(2, nil, 0), step(1, nil, 1)), derivation(rs, step(0, nil), step(2, nil, 0), step(1, nil, 1)))
	wantTrim(t, derivation(rs[:1], step(0, nil)), derivation(rs[:1], step(0, nil)))
}

// TestDoubles: the first step with a fact stands for all of them, whatever rules, values and uses they have.
func TestDoubles(t *testing.T) {
	rs := rules(rule(p(a)), rule(p(v(0))), rule(q(v(0)), p(v(0))), rule(q(v(0)), p(v(1))), rule(r(), q(a), p(a), q(a)))
	first := derivation(rules(rs[0], rs[2], rs[4]), step(0, nil), step(1, terms(a), 0), step(2, nil, 1, 0, 1))
	// Said once, twice, three times; with other rules, other values, values too many.
	for _, more := range [][]api.Step{
		{step(0, nil)},
		{step(0, nil), step(0, nil)},
		{step(1, terms(a))},
		{step(1, terms(a, b)), step(0, terms(a)), step(1, terms(a))},
	} {
		steps := append([]api.Step{step(0, nil)}, more...)
		n := len(steps)
		for from := range n {
			l := append(slices.Clone(steps), step(2, terms(a), from), step(3, terms(a, a), n-1), step(4, nil, n+1, n-1, n))
			wantTrim(t, derivation(rs, l...), first)
		}
	}
	// The first one stands for the others, even if they are the ones that are used, and even if it uses what they don't.
	l := []api.Step{step(1, terms(b)), step(0, nil), step(3, terms(a, b), 0), step(2, terms(a), 1), step(4, nil, 3, 1, 3)}
	wantTrim(t, derivation(rs, l...), derivation(rules(rs[0], rs[1], rs[3], rs[4]), step(1, terms(b)), step(0, nil), step(2, terms(a, b), 0), step(3, nil, 2, 1, 2)))
	// What only doubles use goes.
	l = []api.Step{step(0, nil), step(2, terms(a), 0), step(1, terms(b)), step(3, terms(a, b), 2), step(4, nil, 3, 0, 3)}
	wantTrim(t, derivation(rs, l...), first)
}

// TestLastFactAhead: a step ahead stands for the last one, and what comes behind it goes.
func TestLastFactAhead(t *testing.T) {
	rs := rules(rule(p(a)), rule(q(a)), rule(q(a), p(a)), rule(r(v(0)), q(v(0))), rule(s(), r(a)))
	l := []api.Step{step(0, nil), step(2, nil, 0), step(1, nil), step(3, terms(a), 2), step(4, nil, 3), step(1, nil)}
	wantTrim(t, derivation(rs, l...), derivation(rules(rs[0], rs[2]), step(0, nil), step(1, nil, 0)))
	wantTrim(t, derivation(rs, step(1, nil), step(2, nil, 0)), derivation(rules(rs[1]), step(0, nil)))
	wantTrim(t, derivation(rs, step(1, nil), step(1, nil), step(1, nil)), derivation(rules(rs[1]), step(0, nil)))
	// A step that uses one with its own fact: the earlier one stands for it.
	wantTrim(t, derivation(rs, step(0, nil), step(0, nil, 0), step(2, nil, 1)), derivation(rules(rs[0], rs[2]), step(0, nil), step(1, nil, 0)))
}

// TestWhatNobodyUses: goes, and with it what nobody else uses.
func TestWhatNobodyUses(t *testing.T) {
	rs := rules(rule(p(v(0))), rule(q(v(0)), p(v(0))), rule(r(v(0)), q(v(0))))
	want := derivation(rs, step(0, terms(a)), step(1, terms(a), 0), step(2, terms(a), 1))
	wantTrim(t, derivation(rs, step(0, terms(b)), step(1, terms(b), 0), step(0, terms(a)), step(2, terms(b), 1), step(1, terms(a), 2), step(2, terms(a), 4)), want)
	wantTrim(t, derivation(rs, step(0, terms(a)), step(1, terms(a), 0), step(2, terms(b), 0, 1), step(0, terms(c), 2), step(2, terms(a), 1)), want)
	// Used by one that goes and by one that is kept.
	wantTrim(t, derivation(rs, step(0, terms(a)), step(0, terms(b), 0), step(1, terms(a), 0), step(1, terms(b), 0, 1), step(2, terms(a), 2)), want)
}

// TestUsesStayAsMany: in their order, doubles too; whatever the rule's body asks for.
func TestUsesStayAsMany(t *testing.T) {
	rs := rules(rule(p(a)), rule(p(b)), rule(p(c)), rule(q(a)))
	l := []api.Step{step(1, nil), step(2, nil), step(0, nil), step(2, nil, 0), step(3, nil, 3, 2, 1, 2, 0, 0, 3)}
	want := derivation(rs, step(1, nil), step(2, nil), step(0, nil), step(3, nil, 1, 2, 1, 2, 0, 0, 1))
	wantTrim(t, derivation(rs, l...), want)
	l = []api.Step{step(1, nil), step(0, nil), step(2, nil), step(3, nil, 2, 1, 2)}
	wantTrim(t, derivation(rs, l...), derivation(rules(rs[0], rs[2], rs[3]), step(0, nil), step(1, nil), step(2, nil, 1, 0, 1)))
}

// TestTrimmedRules: those that kept steps name, in order, none twice, whether they are valid or not.
func TestTrimmedRules(t *testing.T) {
	x, y, z, bad := rule(p(v(0)), q(v(0))), rule(q(v(0))), rule(r()), with(api.Clause{Head: by(v(3), p(none)), Body: atoms(api.Atom{})}, test(9, odd, none))
	rs := rules(z, y, bad, x, z, y, x, bad)
	l := []api.Step{step(5, terms(a)), step(1, terms(b)), step(7, nil), step(3, terms(a), 0), step(6, terms(b), 1, 2), step(0, nil), step(4, nil), step(2, terms(a, b, c, ann), 3, 4)}
	wantTrim(t, derivation(rs, l...), derivation(rules(x, bad, y), step(2, terms(a)), step(2, terms(b)), step(1, nil), step(0, terms(a), 0), step(0, terms(b), 1, 2), step(1, terms(a, b, c, ann), 3, 4)))
	wantTrim(t, derivation(rs, l[:7]...), derivation(rules(z), step(0, nil)))
}

// TestNastyFacts: facts that are no facts are told apart as any others.
func TestNastyFacts(t *testing.T) {
	for _, x := range nasty() {
		for _, y := range nasty() {
			rs := rules(rule(x), rule(y), rule(atom("top"), x))
			want := ruled([]api.Step{step(0, nil), step(0, nil), step(0, nil, 0, 1)}, rs)
			if sameAtom(x, y) {
				want = ruled([]api.Step{step(0, nil), step(0, nil, 0, 0)}, rs[1:])
			}
			wantTrim(t, derivation(rs, step(0, nil), step(1, nil), step(2, nil, 0, 1)), want)
		}
	}
}

// TestTrimByChance: beside the plain version, laid or not.
func TestTrimByChance(t *testing.T) {
	kept, gone, notLaid := 0, 0, 0
	for seed := range int64(20000) {
		of := newChosen(seed).derivation()
		want := plainTrim(of)
		wantTrim(t, of, want)
		if !plainLaid(of) {
			notLaid++
			continue
		}
		kept += len(want.Steps)
		gone += len(of.Steps) - len(want.Steps)
		facts, before := plainFacts(want), plainFacts(of)
		if last := len(before) - 1; !sameAtom(facts[len(facts)-1], before[last]) || len(inOrder(facts, compareAtoms)) != len(facts) {
			t.Errorf("P11.7: Trim of %v says %v, the last fact was %v", of, facts, before[last])
		}
	}
	if kept < 20000 || gone < 20000 || notLaid < 1000 {
		t.Errorf("the derivations by chance are too much alike: %d steps stay, %d go, %d aren't laid", kept, gone, notLaid)
	}
}

// follows: whether each step is an instance of its rule over constants whose tests hold and whose body is what the used steps say.
func follows(of api.Proof) bool {
	facts := plainFacts(of)
	for i, s := range of.Steps {
		if !place(s.Rule, len(of.Rules)) {
			return false
		}
		c := of.Rules[s.Rule]
		if len(s.Vals) != variables(c) || slices.ContainsFunc(s.Vals, func(t api.Term) bool { return t.Kind != api.KindNum && t.Kind != api.KindText }) {
			return false
		}
		if slices.ContainsFunc(c.Tests, func(t api.Test) bool { return !holds(s.Vals, t) }) {
			return false
		}
		if !slices.EqualFunc(becomeAll(s.Vals, c.Body), s.Uses, func(x api.Atom, u int) bool { return place(u, i) && sameAtom(x, facts[u]) }) {
			return false
		}
	}
	return true
}

// wandering: a derivation of which each step follows, made by chance: steps are laid by any rule that fits, from any steps that say what it wants.
func (c *chosen) wandering(rs []api.Clause) api.Proof {
	out := api.Proof{Rules: rs}
	for range 60 {
		s := api.Step{Rule: c.Intn(len(rs))}
		for range variables(rs[s.Rule]) {
			s.Vals = append(s.Vals, one(c, a, ann, num(1), txt("1")))
		}
		facts := plainFacts(out)
		for _, x := range becomeAll(s.Vals, rs[s.Rule].Body) {
			for _, n := range c.Perm(len(facts)) {
				if sameAtom(facts[n], x) {
					s.Uses = append(s.Uses, n)
					break
				}
			}
		}
		if more := derivation(rs, append(slices.Clone(out.Steps), s)...); follows(more) {
			out = more
		}
	}
	return out
}

// TestTrimLeavesWhatFollows: each step of what Trim makes follows from its rule and the steps that it uses, if it was so.
func TestTrimLeavesWhatFollows(t *testing.T) {
	steps, gone := 0, 0
	for seed := range int64(300) {
		c := newChosen(seed)
		of := c.wandering(c.program())
		for n := 1; n <= len(of.Steps); n++ {
			part := derivation(of.Rules, of.Steps[:n]...)
			got := proof.Trim(part)
			facts := proof.Facts(got)
			if !follows(got) || !sameAtom(facts[len(facts)-1], plainFacts(part)[n-1]) || len(inOrder(facts, compareAtoms)) != len(facts) {
				t.Fatalf("P11.7: Trim of\n%s is\n%s", proof.Text(part), proof.Text(got))
			}
			steps += len(facts)
			gone += n - len(facts)
		}
	}
	if steps < 5000 || gone < 10000 {
		t.Errorf("the derivations by chance are too much alike: %d steps stay, %d go", steps, gone)
	}
}
