package bundle_test

import (
	"slices"
	"testing"

	"hearsay/api"
	"hearsay/clause"
	"hearsay/keys"
)

// P21.5: Show.

// shown: the scene with its bundle, and what it holds.
func shown(t *testing.T) (scene, string, held) {
	t.Helper()
	s := newScene(t)
	b := made(t, s.ring, s.policy, s.certs, s.goal, 9)
	x, err := readAll(b)
	if err != api.OK {
		t.Fatalf("P21.2: %d", err)
	}
	wantShown(t, s.ring, s.policy, b, s.goal)
	return s, b, x
}

// rewritten: the bundle with one thing changed.
func rewritten(t *testing.T, x held, change func(*held)) string {
	t.Helper()
	x.certs = slices.Clone(x.certs)
	x.p.Rules, x.p.Steps = slices.Clone(x.p.Rules), slices.Clone(x.p.Steps)
	change(&x)
	return written(t, x.goal, x.certs, x.p)
}

// TestShowOfNoBundle: Read's error, ahead of all else.
func TestShowOfNoBundle(t *testing.T) {
	s, b, x := shown(t)
	spoilt := rewritten(t, x, func(x *held) { x.certs[0] = "x" })
	for _, r := range []*keys.Ring{s.ring, keys.New(nil)} {
		for _, policy := range [][]api.Clause{s.policy, nil} {
			for n := range b {
				wantNotShown(t, r, policy, b[:n], api.ErrBundle)
			}
			wantNotShown(t, r, policy, b+"\x00", api.ErrBundle)
			wantNotShown(t, r, policy, spoilt+"\x00", api.ErrBundle)
			wantNotShown(t, r, policy, spoilt+string(make([]byte, api.MaxBundle)), api.ErrBundleLong)
			wantNotShown(t, r, policy, string(make([]byte, api.MaxBundle)), api.ErrBundle)
		}
	}
}

// TestShowWithSpoiltCertificates: Open's error of the first, ahead of the checker's; also of one that isn't needed.
func TestShowWithSpoiltCertificates(t *testing.T) {
	s, _, x := shown(t)
	for bad, want := range unopened(t, s) {
		for place := range len(x.certs) + 1 {
			more := rewritten(t, x, func(x *held) { x.certs = slices.Insert(x.certs, place, bad) })
			wantNotShown(t, s.ring, s.policy, more, want)
			wantNotShown(t, s.ring, nil, more, want)
			noSteps := rewritten(t, x, func(x *held) { x.certs, x.p = slices.Insert(x.certs, place, bad), api.Proof{} })
			wantNotShown(t, s.ring, s.policy, noSteps, want)
		}
		for other, first := range unopened(t, s) {
			wantNotShown(t, s.ring, s.policy, rewritten(t, x, func(x *held) { x.certs = append(x.certs, other, bad) }), first)
		}
	}
}

// TestShowChecks: each of the checker's errors.
func TestShowChecks(t *testing.T) {
	s, _, x := shown(t)
	last := len(x.p.Steps) - 1
	for _, w := range []struct {
		change func(*held)
		want   api.Errno
	}{
		{func(x *held) { x.p.Steps = nil }, api.ErrSteps},
		{func(x *held) { x.p.Steps = slices.Repeat(x.p.Steps, 1001)[:5001] }, api.ErrSteps},
		{func(x *held) { x.p.Steps[last].Rule = 99 }, api.ErrRule},
		{func(x *held) { x.p.Steps[last].Vals = nil }, api.ErrVals},
		{func(x *held) { x.p.Steps[last].Uses = []int{0} }, api.ErrUses},
		{func(x *held) { x.p.Steps[last].Vals = []api.Term{txt("dan")} }, api.ErrFails},
		{func(x *held) { x.p.Steps[last].Vals = []api.Term{txt("eve")} }, api.ErrMismatch},
		{func(x *held) { x.p.Rules[0].Tests = []api.Test{test(api.OpEq, num(1), num(1))} }, api.ErrForeign},
		{func(x *held) { x.goal = atom("may", txt("eve")) }, api.ErrGoal},
		{func(x *held) { x.goal = atom("may", v(0)) }, api.ErrGoal},
		{func(x *held) { x.goal = says(txt("alice"), "may", txt("carl")) }, api.ErrGoal},
		{func(x *held) { x.p.Steps = x.p.Steps[:last] }, api.ErrGoal},
		{func(x *held) { x.certs, x.goal = nil, atom("on") }, api.ErrForeign},
	} {
		wantNotShown(t, s.ring, s.policy, rewritten(t, x, w.change), w.want)
	}
	wantShown(t, s.ring, s.policy, rewritten(t, x, func(x *held) { x.goal, x.p.Steps = says(txt("bob"), "on"), x.p.Steps[:last] }), says(txt("bob"), "on"))
}

// TestShowNeedsNoMore: certificates in any order, twice, and more than are needed; rules that no step names.
func TestShowNeedsNoMore(t *testing.T) {
	s, _, x := shown(t)
	for _, change := range []func(*held){
		func(x *held) { slices.Reverse(x.certs) },
		func(x *held) { x.certs = append(x.certs, x.certs...) },
		func(x *held) { x.certs = append(x.certs, s.certs...) },
		func(x *held) { x.p.Rules = append(x.p.Rules, rule(atom("never"))) },
		func(x *held) { x.p.Steps = append(x.p.Steps, x.p.Steps[0], x.p.Steps[len(x.p.Steps)-1]) },
	} {
		wantShown(t, s.ring, s.policy, rewritten(t, x, change), s.goal)
	}
}

// TestOtherPolicies: P21.7: at least those clauses that the derivation names; without any one of them ErrForeign.
func TestOtherPolicies(t *testing.T) {
	s, b, _ := shown(t)
	more := programOf(t, "x. y :- x. may(X) :- alice says good(X).")
	wantShown(t, s.ring, slices.Concat(more, s.policy, more, s.policy), b, s.goal)
	reversed := slices.Clone(s.policy)
	slices.Reverse(reversed)
	wantShown(t, s.ring, reversed, b, s.goal)
	for i := range s.policy {
		wantNotShown(t, s.ring, without(s.policy, i), b, api.ErrForeign)
		wantNotShown(t, s.ring, append(without(s.policy, i), more...), b, api.ErrForeign)
	}
	wantNotShown(t, s.ring, nil, b, api.ErrForeign)
	wantNotShown(t, s.ring, more, b, api.ErrForeign)
}

// TestPoliciesWithWrongClauses: they don't matter; and none of them is a rule of a derivation.
func TestPoliciesWithWrongClauses(t *testing.T) {
	s, b, _ := shown(t)
	var all []api.Clause
	for _, w := range wrongClauses() {
		all = append(all, w.c)
		wantShown(t, s.ring, append(rules(w.c), s.policy...), b, s.goal)
		wantShown(t, s.ring, append(slices.Clone(s.policy), w.c), b, s.goal)
		wantNotShown(t, s.ring, append(s.policy[1:], w.c), b, api.ErrForeign)
	}
	wantShown(t, s.ring, slices.Concat(all, s.policy, all), b, s.goal)
	wantNotShown(t, s.ring, all, b, api.ErrForeign)
}

// TestManyClauses: Show makes no model: neither the number of clauses nor what would follow from them is asked.
func TestManyClauses(t *testing.T) {
	s, b, _ := shown(t)
	policy := slices.Clone(s.policy)
	for n := range 1500 {
		policy = append(policy, rule(atom("d", num(n))))
	}
	policy = append(policy, rule(atom("e", v(0), v(1)), atom("d", v(0)), atom("d", v(1))))
	wantShown(t, s.ring, policy, b, s.goal)
	wantNotMade(t, s.ring, policy, s.certs, s.goal, 9, api.ErrMany)
}

// TestOtherRings: what wasn't issued there isn't opened there: also with one secret; till it is issued there too.
func TestOtherRings(t *testing.T) {
	s, b, _ := shown(t)
	for _, r := range []*keys.Ring{keys.New(nil), ringOf(t, "s"), ringOf(t, "s", "alice", "bob", "carl"), ringOf(t, "t", "alice", "bob", "carl")} {
		wantNotShown(t, r, s.policy, b, api.ErrSeal)
		wantNotMade(t, r, s.policy, s.certs, s.goal, 9, api.ErrSeal)
	}
	r := ringOf(t, "s", "alice", "bob", "carl")
	said(t, r, "alice", "good(carl).")
	wantNotShown(t, r, s.policy, b, api.ErrSeal)
	said(t, r, "bob", "up.")
	wantShown(t, r, s.policy, b, s.goal)
	// A bundle without certificates hangs on no ring.
	policy := programOf(t, "p(a). q(X) :- p(X).")
	none := made(t, s.ring, policy, nil, goalOf(t, "q(a)"), 9)
	wantShown(t, keys.New(nil), policy, none, goalOf(t, "q(a)"))
}

// TestEveryByteOfABundle: changed into each other one, it is shown as the chapter's words have it: mostly not; and what is shown follows all the same (P21.6).
func TestEveryByteOfABundle(t *testing.T) {
	s, b, _ := shown(t)
	answers := map[api.Errno]int{}
	for i := range b {
		for bits := 1; bits < 256; bits++ {
			changed := turned(b, i, byte(bits))
			want, err := plainShow(s.certs, s.policy, changed)
			answers[err]++
			if err != api.OK {
				wantNotShown(t, s.ring, s.policy, changed, err)
				continue
			}
			wantShown(t, s.ring, s.policy, changed, want)
			wantFollows(t, s.policy, changed)
		}
	}
	for _, err := range []api.Errno{api.ErrBundle, api.ErrMagic, api.ErrShort, api.ErrCode, api.ErrSeal, api.ErrRule, api.ErrUses, api.ErrForeign, api.ErrGoal} {
		if answers[err] == 0 {
			t.Errorf("too much alike: %v", answers)
		}
	}
}

// wantFollows: P21.6: the goal of what is shown is a fact of the least model of the policy's valid clauses and the quotes of the bundle's certificates.
func wantFollows(t *testing.T, policy []api.Clause, b string) {
	t.Helper()
	x, err := readAll(b)
	valid := slices.DeleteFunc(slices.Clone(policy), func(c api.Clause) bool { return clause.Check(c) != api.OK })
	if err != api.OK || !hasAtom(plainModel(slices.Concat(valid, quotes(x.certs))), x.goal) {
		t.Errorf("P21.6: %+v is shown to one who holds %s, %d", x.goal, told(policy), err)
	}
}

// TestWithoutOne: P21.8, of the scene.
func TestWithoutOne(t *testing.T) {
	s, _, x := shown(t)
	if len(x.certs) != 2 {
		t.Errorf("P21.4: %d certificates", len(x.certs))
	}
	for i := range x.certs {
		wantNotShown(t, s.ring, s.policy, rewritten(t, x, func(x *held) { x.certs = without(x.certs, i) }), api.ErrForeign)
	}
	wantNotShown(t, s.ring, s.policy, rewritten(t, x, func(x *held) { x.certs = nil }), api.ErrForeign)
}
