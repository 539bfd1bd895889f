package bundle_test

import (
	"slices"
	"testing"

	"hearsay/api"
	"hearsay/bundle"
	"hearsay/keys"
	"hearsay/syntax"
)

// P21.4 to P21.8: policies and certificates by chance, held against the chapter's words.

// clauseTexts: few names and constants, so that clauses feed each other; among them such as are the quote of another, or have one quote.
func clauseTexts() []string {
	return texts(
		"p(a).", "p(b).", "p(1).", "q(c).", "t.", "e(a, b).", "e(b, c).", "e(c, a).",
		"q(X) :- p(X).", "q(X) :- ann says p(X).", "q(X) :- bob says p(X).", "p(X) :- W says q(X), X != b.", "p(X) :- q(X), X < b.", "p(Y) :- p(X), e(X, Y).",
		"ok(X) :- W says p(X).", "ok(X) :- q(X), W says q(X).", "ok(X) :- q(X), ann says q(X).", "ok(X) :- ann says q(X), ann says q(X).", "t :- p(X), q(X).", "t :- ok(a), 1 < 2.", "t :- 2 < 1.", "e(X, Z) :- e(X, Y), e(Y, Z), X != Z.",
	)
}

// policyTexts: these, and such whose heads another says.
func policyTexts() []string {
	return append(clauseTexts(),
		"ann says p(a).", "bob says q(c).", "ann says q(X) :- ann says p(X).", "bob says q(X) :- bob says p(X).", "bob says ok(X) :- ok(X), t.", "carl says p(X) :- q(X).", "ok(X) :- ann says p(X), bob says p(X).", "q(X) :- W says ok(X), carl says t.",
	)
}

// market: a ring with all that was issued on it, one policy, and some of the certificates.
type market struct {
	t      *testing.T
	r      *keys.Ring
	issued []string
	policy []api.Clause
	certs  []string
	told   map[api.Errno]int
}

func newMarket(t *testing.T, c *chosen, told map[api.Errno]int) *market {
	t.Helper()
	m := &market{t: t, r: ringOf(t, "s", "ann", "bob", "carl"), told: told}
	for _, u := range texts("ann", "bob", "carl") {
		for _, text := range some(c, clauseTexts(), 2) {
			m.issued = append(m.issued, said(t, m.r, u, text))
		}
	}
	for _, text := range some(c, policyTexts(), 3) {
		m.policy = append(m.policy, clauseOf(t, text))
	}
	m.certs = some(c, append(m.issued, m.issued...), 3)
	return m
}

// goal: mostly a fact that follows.
func (m *market) goal(c *chosen, facts []api.Atom) api.Atom {
	if len(facts) > 0 && c.Intn(8) > 0 {
		return one(c, facts...)
	}
	return goalOf(m.t, one(c, "p(a)", "ann says ok(c)", "never", "p(X)", "W says p(a)", "bob says q(1)", "e(b, b)"))
}

// other: sometimes with a certificate that is no good, or a clause that isn't valid.
func (m *market) other(c *chosen) ([]api.Clause, []string) {
	policy, certs := slices.Clone(m.policy), slices.Clone(m.certs)
	switch c.Intn(12) {
	case 0:
		certs = slices.Insert(certs, c.Intn(len(certs)+1), c.spoilt(one(c, m.issued...)))
	case 1:
		policy = slices.Insert(policy, c.Intn(len(policy)+1), one(c, wrongClauses()...).c)
	}
	return policy, certs
}

// make: what the chapter's words make; the bundle, if there is one.
func (m *market) make(policy []api.Clause, certs []string, goal api.Atom, fuel int) (string, bool) {
	m.t.Helper()
	want, err := plainMake(m.issued, policy, certs, goal, fuel)
	m.told[err]++
	if err != api.OK {
		wantNotMade(m.t, m.r, policy, certs, goal, fuel, err)
		return "", false
	}
	wantMade(m.t, m.r, policy, certs, goal, fuel, want)
	return want, true
}

// wantGood: P21.6 to P21.8 of what was made.
func (m *market) wantGood(c *chosen, policy []api.Clause, goal api.Atom, b string) {
	m.t.Helper()
	x, err := readAll(b)
	if err != api.OK || !sameAtom(x.goal, goal) || !slices.IsSorted(x.certs) || len(slices.Compact(slices.Clone(x.certs))) != len(x.certs) {
		m.t.Errorf("P21.4: a bundle of %+v with %x, %d", x.goal, x.certs, err)
	}
	wantShown(m.t, m.r, policy, b, goal)
	wantFollows(m.t, policy, b)
	var named []api.Clause
	for _, s := range x.p.Steps {
		if hasClause(policy, x.p.Rules[s.Rule]) {
			named = append(named, x.p.Rules[s.Rule])
		}
	}
	wantShown(m.t, m.r, named, b, goal)
	more := append(slices.Clone(policy), one(c, wrongClauses()...).c, clauseOf(m.t, one(c, policyTexts()...)))
	c.Shuffle(len(more), func(i, k int) { more[i], more[k] = more[k], more[i] })
	wantShown(m.t, m.r, more, b, goal)
	for i := range x.certs {
		less := written(m.t, goal, without(x.certs, i), x.p)
		wantNotShown(m.t, m.r, policy, less, api.ErrForeign)
	}
	elsewhere := ringOf(m.t, "s", "ann", "bob", "carl") // where nothing was issued
	if len(x.certs) > 0 {
		wantNotShown(m.t, elsewhere, policy, b, api.ErrSeal)
	} else {
		wantShown(m.t, elsewhere, policy, b, goal)
	}
}

// forged: a bundle by one who has no need to be honest: another's certificates, goal, rules or steps.
func (c *chosen) forged(m *market, x, y held) held {
	out := held{x.goal, slices.Clone(x.certs), api.Proof{Rules: slices.Clone(x.p.Rules), Steps: slices.Clone(x.p.Steps)}}
	for range 1 + c.Intn(2) {
		switch c.Intn(8) {
		case 0:
			out.goal = y.goal
		case 1:
			out.certs = y.certs
		case 2:
			out.certs = some(c, m.issued, 2)
		case 3:
			out.certs = append(out.certs, c.spoilt(one(c, m.issued...)))
		case 4:
			out.p.Rules = append(out.p.Rules, rule(y.goal))
			out.p.Steps = append(out.p.Steps, step(len(out.p.Rules)-1, nil))
		case 5:
			out.p.Steps = out.p.Steps[:c.Intn(len(out.p.Steps)+1)]
		case 6:
			if len(out.p.Steps) > 0 {
				s := &out.p.Steps[c.Intn(len(out.p.Steps))]
				*s = step(c.Intn(len(out.p.Rules)+1), s.Vals, s.Uses...)
			}
		case 7:
			out.p.Rules = y.p.Rules
		}
	}
	if n := len(out.p.Steps); n > 0 && c.Intn(2) == 0 && out.p.Steps[n-1].Rule < len(out.p.Rules) {
		out.goal = clauseHead(out.p, n-1)
	}
	return out
}

// clauseHead: what the step says.
func clauseHead(p api.Proof, n int) api.Atom {
	s := values{}
	for i, t := range p.Steps[n].Vals {
		s[i] = t
	}
	return s.atom(p.Rules[p.Steps[n].Rule].Head)
}

// show: as the chapter's words have it; and P21.6.
func (m *market) show(policy []api.Clause, b string) api.Errno {
	m.t.Helper()
	want, err := plainShow(m.issued, policy, b)
	if err != api.OK {
		wantNotShown(m.t, m.r, policy, b, err)
		return err
	}
	wantShown(m.t, m.r, policy, b, want)
	wantFollows(m.t, policy, b)
	x, _ := readAll(b)
	for _, c := range x.certs {
		if !slices.Contains(m.issued, c) {
			m.t.Errorf("P21.6: %x was never issued", c)
		}
	}
	return api.OK
}

func TestMarkets(t *testing.T) {
	toldByMake, toldByShow := map[api.Errno]int{}, map[api.Errno]int{}
	withCerts, several := 0, 0
	for seed := range int64(150) {
		c := newChosen(seed)
		m := newMarket(t, c, toldByMake)
		facts := plainModel(append(slices.Clone(m.policy), quotes(m.certs)...))
		var all []held
		for range 12 {
			policy, certs := m.other(c)
			goal, fuel := m.goal(c, facts), one(c, 0, 2, 3, 9, 50, 5001, greatestInt)
			b, made := m.make(policy, certs, goal, fuel)
			if !made {
				continue
			}
			m.wantGood(c, policy, goal, b)
			x, _ := readAll(b)
			all = append(all, x)
			withCerts += min(len(x.certs), 1)
			several += min(len(x.certs)/2, 1)
		}
		for range 40 {
			if len(all) == 0 {
				break
			}
			x := c.forged(m, one(c, all...), one(c, all...))
			b, err := bundle.Write(x.goal, lists(x.certs), x.p)
			if err != api.OK {
				t.Errorf("P21.1: Write of what was forged: %d", err)
			}
			toldByShow[m.show(one(c, m.policy, some(c, m.policy, 2)), string(b))]++
		}
		if t.Failed() {
			t.Fatalf("the market of seed %d: %s", seed, told(m.policy))
		}
	}
	wantEnough(t, toldByMake, 5, api.OK, api.ErrFact, api.ErrSeal, api.ErrFuel, api.ErrNoFact, api.ErrSafe)
	wantEnough(t, toldByShow, 5, api.OK, api.ErrSeal, api.ErrSteps, api.ErrRule, api.ErrVals, api.ErrUses, api.ErrMismatch, api.ErrForeign, api.ErrGoal)
	if withCerts < 400 || several < 200 {
		t.Errorf("too much alike: %d bundles with certificates, %d with several", withCerts, several)
	}
}

func wantEnough(t *testing.T, told map[api.Errno]int, least int, errs ...api.Errno) {
	t.Helper()
	for _, err := range errs {
		if told[err] < least {
			t.Errorf("too much alike: %d was told %d times; %v", err, told[err], told)
		}
	}
}

// TestEachFact: of each fact of many models a bundle is made, and shows it.
func TestEachFact(t *testing.T) {
	facts := 0
	for seed := range int64(25) {
		c := newChosen(1000 + seed)
		m := newMarket(t, c, map[api.Errno]int{})
		model := plainModel(append(slices.Clone(m.policy), quotes(m.certs)...))
		for _, f := range model {
			b := made(t, m.r, m.policy, m.certs, f, greatestInt)
			m.wantGood(c, m.policy, f, b)
		}
		facts += len(model)
		for _, text := range texts("never", "p(zz)", "zoe says p(a)") {
			f := goalOf(t, text)
			if hasAtom(model, f) {
				t.Errorf("%s is a fact", syntax.PrintAtom(f))
			}
			wantNotMade(t, m.r, m.policy, m.certs, f, greatestInt, api.ErrNoFact)
		}
	}
	if facts < 300 {
		t.Errorf("too much alike: %d facts", facts)
	}
}
