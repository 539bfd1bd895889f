package bundle_test

import (
	"sort"
	"testing"

	"hearsay/api"
	"hearsay/keys"
)

// P21.4: Run's limits, and Write's.

// numbers: the facts name(from) to name(to - 1).
func numbers(name string, from, to int) []api.Clause {
	var out []api.Clause
	for n := from; n < to; n++ {
		out = append(out, rule(atom(name, num(n))))
	}
	return out
}

// TestManyClausesOfMake: the policy's and the quotes count together, each different one once.
func TestManyClausesOfMake(t *testing.T) {
	r := ringOf(t, "s", "alice")
	goal, certs := goalOf(t, "alice says p"), texts(said(t, r, "alice", "p."))
	policy := numbers("d", 0, 999)
	b := made(t, r, policy, certs, goal, 2)
	wantMade(t, r, append(policy, policy...), append(certs, certs...), goal, 2, b)
	more := append(certs, said(t, r, "alice", "q."))
	wantNotMade(t, r, policy, more, goal, 2, api.ErrMany)
	wantNotMade(t, r, policy, more, goal, 0, api.ErrMany)
	wantNotMade(t, r, append(policy, rule(atom("d", num(999)))), certs, goal, 2, api.ErrMany)
	wantNotMade(t, r, append(policy, rule(atom("d", num(999))), rule(atom("D"))), certs, goal, 2, api.ErrName)
	wantNotMade(t, r, numbers("d", 0, 1001), append(certs, "x"), goal, 2, api.ErrMagic)
	own := append(policy, clauseOf(t, "alice says p."))
	wantMade(t, r, own, certs, goal, 2, plainWrite(held{goal, nil, derivation(rules(own[999]), step(0, nil))}))
}

// TestManyFacts: ErrFuel ahead of the round that finds too many, ErrFacts behind it.
func TestManyFacts(t *testing.T) {
	r := ringOf(t, "s", "alice")
	certs := texts(said(t, r, "alice", "p(X, Y) :- d(X), d(Y)."))
	for _, c := range numbers("d", 0, 100) {
		certs = append(certs, issued(t, r, "alice", c))
	}
	for _, goal := range []api.Atom{goalOf(t, "alice says d(1)"), atom("never")} {
		wantNotMade(t, r, nil, certs, goal, 1, api.ErrFuel)
		wantNotMade(t, r, nil, certs, goal, 2, api.ErrFacts)
		wantNotMade(t, r, nil, certs, goal, greatestInt, api.ErrFacts)
	}
	goal := goalOf(t, "alice says p(7, 8)")
	x, err := readAll(made(t, r, nil, certs[:70], goal, 3))
	if err != api.OK || len(x.certs) != 3 || len(x.p.Steps) != 3 {
		t.Errorf("P21.4: %d certificates, %d steps, %d", len(x.certs), len(x.p.Steps), err)
	}
}

// tower: a goal whose derivation has a long rule for each floor and a short one for each stair above them; the goal has an argument of so many bytes. The rules are the policy's, but so many of the floors are said by certificates.
type tower struct{ floors, stairs, bytes, certified int }

// laid: what must be made of it, by the chapter's words, but for the order of the rules, the steps' and the certificates'; and the policy.
func (w tower) laid(t *testing.T, r *keys.Ring) (held, []api.Clause) {
	t.Helper()
	var x held
	var policy []api.Clause
	add := func(head api.Atom, below int, certified bool) {
		c, s := rule(head), step(len(x.p.Rules), nil)
		if top := len(x.p.Rules) - 1; top >= 0 {
			c.Body, s.Uses = nTimes(below, x.p.Rules[top].Head), nTimes(below, top)
		}
		x.p.Rules, x.p.Steps = append(x.p.Rules, c), append(x.p.Steps, s)
		if !certified {
			policy = append(policy, c)
			return
		}
		c.Head.By = none
		x.certs = append(x.certs, issued(t, r, "alice", c))
	}
	alice, filled := txt("alice"), nTimes(7, txt(long(64)))
	for n := range w.floors {
		add(says(alice, "floor", append([]api.Term{num(n)}, filled...)...), 8, n < w.certified)
	}
	for n := range w.stairs {
		add(says(alice, "stair", num(n)), 1, false)
	}
	x.goal = says(alice, "top", txt(long(w.bytes)))
	add(x.goal, 1, false)
	return x, policy
}

// most: the greatest number with which the tower that it makes has no more than MaxBundle bytes.
func most(t *testing.T, r *keys.Ring, towerOf func(n int) tower) int {
	t.Helper()
	return sort.Search(1000, func(n int) bool {
		x, _ := towerOf(n).laid(t, r)
		return len(plainWrite(x)) > api.MaxBundle
	}) - 1
}

// TestGreatestMade: towers that come to MaxBundle bytes, or one less, and to one or two more.
func TestGreatestMade(t *testing.T) {
	for _, certified := range []int{0, 40} {
		r := ringOf(t, "s", "alice")
		w := tower{certified: certified}
		w.floors = most(t, r, func(n int) tower { return tower{n, 0, 0, certified} })
		w.stairs = most(t, r, func(n int) tower { return tower{w.floors, n, 0, certified} })
		w.bytes = most(t, r, func(n int) tower { return tower{w.floors, w.stairs, n, certified} })
		x, policy := w.laid(t, r)
		if n := len(plainWrite(x)); w.floors < 50 || w.bytes > 63 || n < 1048575 {
			t.Fatalf("the tower %+v has %d bytes", w, n)
		}
		b := made(t, r, policy, x.certs, x.goal, greatestInt)
		got, err := readAll(b)
		if err != api.OK || len(b) != len(plainWrite(x)) || len(got.certs) != certified || len(got.p.Steps) != len(x.p.Steps) {
			t.Errorf("P21.4: %d bytes, %d certificates, %d steps, %d", len(b), len(got.certs), len(got.p.Steps), err)
		}
		wantShown(t, r, policy, b, x.goal)
		w.bytes++
		x, policy = w.laid(t, r)
		wantNotMade(t, r, policy, x.certs, x.goal, greatestInt, api.ErrBundleLong)
		wantNotMade(t, r, policy, x.certs, x.goal, 20, api.ErrFuel)
		wantNotMade(t, r, policy, x.certs, atom("never"), greatestInt, api.ErrNoFact)
	}
}

// TestNothingAtAll: no policy, no certificates.
func TestNothingAtAll(t *testing.T) {
	r := ringOf(t, "s")
	for _, goal := range []api.Atom{atom("p"), goalOf(t, "alice says good(carl)")} {
		wantNotMade(t, r, nil, nil, goal, 1, api.ErrNoFact)
		wantNotMade(t, r, []api.Clause{}, []string{}, goal, 0, api.ErrFuel)
	}
}
