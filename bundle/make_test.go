package bundle_test

import (
	"slices"
	"strings"
	"testing"

	"hearsay/api"
	"hearsay/keys"
)

// P21.4: Make.

// scene: a ring with alice, bob and carl, certificates of each, and a policy.
type scene struct {
	ring   *keys.Ring
	policy []api.Clause
	certs  []string
	goal   api.Atom
}

// newScene: of the certificates the goal needs the first two.
func newScene(t *testing.T) scene {
	t.Helper()
	r := ringOf(t, "s", "alice", "bob", "carl")
	return scene{
		r, programOf(t, "may(X) :- alice says good(X), bob says on, X != dan. on. bob says on :- bob says up, on."),
		texts(said(t, r, "alice", "good(carl)."), said(t, r, "bob", "up."), said(t, r, "alice", "good(eve)."), said(t, r, "carl", "up."), said(t, r, "carl", "good(X) :- alice says good(X).")),
		goalOf(t, "may(carl)"),
	}
}

func TestMade(t *testing.T) {
	s := newScene(t)
	needed := slices.Sorted(slices.Values(s.certs[:2]))
	cs := programOf(t, "alice says good(carl). may(X) :- alice says good(X), bob says on, X != dan. on. bob says on :- bob says up, on. bob says up.")
	want := held{s.goal, needed, derivation(rules(cs[0], cs[1], cs[2], cs[3], cs[4]), step(0, nil), step(4, nil), step(2, nil), step(3, nil, 1, 2), step(1, []api.Term{txt("carl")}, 0, 3))}
	b := made(t, s.ring, s.policy, s.certs, s.goal, 9)
	wantRead(t, b, want)
	wantMade(t, s.ring, s.policy, s.certs[:2], s.goal, 9, b)
	wantShown(t, s.ring, s.policy, b, s.goal)
}

// TestGoalsThatArentFacts: told ahead of all else.
func TestGoalsThatArentFacts(t *testing.T) {
	s := newScene(t)
	bad := append(wrongAtoms(), wrongAtom{goalOf(t, "may(X)"), 0}, wrongAtom{says(v(0), "may", txt("carl")), 0}, wrongAtom{atom("p", num(1), v(greatestInt)), 0})
	for _, w := range bad {
		wantNotMade(t, s.ring, s.policy, s.certs, w.a, 9, api.ErrFact)
		wantNotMade(t, s.ring, s.policy, append(s.certs, "x"), w.a, 9, api.ErrFact)
		wantNotMade(t, s.ring, rules(wrongClauses()[0].c), texts(""), w.a, 0, api.ErrFact)
		wantNotMade(t, s.ring, nil, nil, w.a, leastInt, api.ErrFact)
	}
}

// unopened: bytes that Open refuses, and why.
func unopened(t *testing.T, s scene) map[string]api.Errno {
	t.Helper()
	good := s.certs[0]
	elsewhere := ringOf(t, "s", "alice", "dan")
	return map[string]api.Errno{
		"": api.ErrMagic, "HSB1": api.ErrMagic, "HSC1": api.ErrShort, "HSC1\x00": api.ErrCode, good[:len(good)-1]: api.ErrShort, good + "\x00": api.ErrTail,
		turned(good, len(good)-1, 1): api.ErrSeal, strings.Replace(good, "alice", "carol", 1): api.ErrSeal,
		said(t, elsewhere, "alice", "bad(dan)."): api.ErrSeal, said(t, elsewhere, "dan", "up."): api.ErrSeal,
		plainWrite(exampleBundle()): api.ErrMagic,
	}
}

// TestCertificatesThatArentOpened: at any place of the list the first of them is told, needed or not; ahead of what the clauses and the goal would give.
func TestCertificatesThatArentOpened(t *testing.T) {
	s := newScene(t)
	wrongPolicy := append(rules(wrongClauses()[0].c), s.policy...)
	for x, want := range unopened(t, s) {
		for place := range len(s.certs) + 1 {
			certs := slices.Insert(slices.Clone(s.certs), place, x)
			wantNotMade(t, s.ring, s.policy, certs, s.goal, 9, want)
			wantNotMade(t, s.ring, wrongPolicy, certs, s.goal, 0, want)
			wantNotMade(t, s.ring, nil, certs, atom("never"), 9, want)
			for y, other := range unopened(t, s) {
				both := slices.Insert(slices.Clone(certs), (place+3)%len(certs), y)
				if slices.Index(both, y) < slices.Index(both, x) {
					wantNotMade(t, s.ring, s.policy, both, s.goal, 9, other)
				} else {
					wantNotMade(t, s.ring, s.policy, both, s.goal, 9, want)
				}
			}
		}
		wantNotMade(t, s.ring, programOf(t, "p."), texts(x), atom("p"), 9, want)
	}
}

// TestPoliciesThatArentValid: the least of the clauses that aren't is told, ahead of the fuel and of the goal.
func TestPoliciesThatArentValid(t *testing.T) {
	s := newScene(t)
	for _, w := range wrongClauses() {
		for place := range len(s.policy) + 1 {
			policy := slices.Insert(slices.Clone(s.policy), place, w.c)
			wantNotMade(t, s.ring, policy, s.certs, s.goal, 9, w.err)
			wantNotMade(t, s.ring, policy, s.certs, s.goal, 0, w.err)
			wantNotMade(t, s.ring, policy, nil, atom("never"), 9, w.err)
		}
	}
	for _, policy := range [][]api.Clause{{rule(atom("p", v(0))), rule(atom("Says"))}, {rule(atom("Says")), rule(atom("p", v(0)))}} {
		wantNotMade(t, s.ring, policy, s.certs, s.goal, 9, api.ErrName)
	}
}

// TestFuels: as many rounds as the model of all clauses has, those of certificates that aren't needed too; ahead of ErrNoFact.
func TestFuels(t *testing.T) {
	s := newScene(t)
	b := made(t, s.ring, s.policy, s.certs, s.goal, 9)
	for _, fuel := range []int{leastInt, -1, 0, 1, 2, 3} {
		wantNotMade(t, s.ring, s.policy, s.certs, s.goal, fuel, api.ErrFuel)
		wantNotMade(t, s.ring, s.policy, s.certs, atom("never"), fuel, api.ErrFuel)
		wantNotMade(t, s.ring, s.policy, s.certs, goalOf(t, "on"), fuel, api.ErrFuel) // though the first round finds it
	}
	for _, fuel := range []int{4, 5, 100, greatestInt} {
		wantMade(t, s.ring, s.policy, s.certs, s.goal, fuel, b)
		wantNotMade(t, s.ring, s.policy, s.certs, atom("never"), fuel, api.ErrNoFact)
	}
	long := append(s.certs, said(t, s.ring, "carl", "a :- bob says up."), said(t, s.ring, "carl", "b :- a."), said(t, s.ring, "carl", "c :- b."), said(t, s.ring, "carl", "d :- c."))
	wantNotMade(t, s.ring, s.policy, long, s.goal, 5, api.ErrFuel)
	wantMade(t, s.ring, s.policy, long, s.goal, 6, b)
	wantNotMade(t, s.ring, nil, nil, s.goal, 0, api.ErrFuel)
	wantNotMade(t, s.ring, nil, nil, s.goal, 1, api.ErrNoFact)
}

// TestGoalsThatDontFollow: facts of nobody, of another who says them, with other arguments.
func TestGoalsThatDontFollow(t *testing.T) {
	s := newScene(t)
	for _, text := range texts("may(dan)", "may", "may(carl, carl)", "alice says may(carl)", "good(carl)", "bob says good(carl)", "up", "dan says up", "may(\"\")", "may(0)") {
		wantNotMade(t, s.ring, s.policy, s.certs, goalOf(t, text), 9, api.ErrNoFact)
	}
	for i := range 2 { // without a certificate that is needed
		wantNotMade(t, s.ring, s.policy, without(s.certs, i), s.goal, 9, api.ErrNoFact)
	}
	for i := range s.policy {
		wantNotMade(t, s.ring, without(s.policy, i), s.certs, s.goal, 9, api.ErrNoFact)
	}
}

// TestCertificatesNamedTwice: and in any order, with the policy in any order: the same bundle.
func TestCertificatesNamedTwice(t *testing.T) {
	s := newScene(t)
	b := made(t, s.ring, s.policy, s.certs, s.goal, 9)
	c := newChosen(214)
	for range 60 {
		certs := append(slices.Clone(s.certs[:2]), some(c, slices.Concat(s.certs, s.certs, s.certs), 2)...)
		c.Shuffle(len(certs), func(i, k int) { certs[i], certs[k] = certs[k], certs[i] })
		policy := append(slices.Clone(s.policy), some(c, slices.Concat(s.policy, s.policy), 2)...)
		c.Shuffle(len(policy), func(i, k int) { policy[i], policy[k] = policy[k], policy[i] })
		wantMade(t, s.ring, policy, certs, s.goal, 9, b)
	}
}

// TestSeveralOfOneQuote: the one whose bytes stand first, whatever the list's order; how many bytes it has doesn't count.
func TestSeveralOfOneQuote(t *testing.T) {
	r := ringOf(t, "s", "alice", "bob")
	var all []string // eight of one quote
	for n := range 8 {
		c := clauseOf(t, "p :- q, r, s.")
		for i := range c.Body {
			if n&(1<<i) > 0 {
				c.Body[i].By = txt("alice")
			}
		}
		all = append(all, issued(t, r, "alice", c))
	}
	facts := texts(said(t, r, "alice", "q."), said(t, r, "alice", "r."), said(t, r, "alice", "s."))
	goal, longer := goalOf(t, "alice says p"), 0
	for n := 1; n < 256; n++ {
		var some []string
		for i, b := range all {
			if n&(1<<i) > 0 {
				some = append(some, b)
			}
		}
		least := slices.Min(some)
		if slices.ContainsFunc(some, func(b string) bool { return len(b) < len(least) }) {
			longer++
		}
		want := slices.Sorted(slices.Values(append(texts(least), facts...)))
		for range 2 {
			slices.Reverse(some)
			b := made(t, r, nil, slices.Concat(facts[:1], some, facts[1:], some), goal, 9)
			if x, err := readAll(b); err != api.OK || !slices.Equal(x.certs, want) {
				t.Errorf("P21.4: of %x there are %x, want %x", some, x.certs, want)
			}
			wantShown(t, r, nil, b, goal)
		}
	}
	if longer == 0 || longer > 200 {
		t.Errorf("too much alike: in %d lists a shorter one stands behind", longer)
	}
}

// TestRulesOfThePolicyToo: a rule that is both the policy's and a quote needs no certificate.
func TestRulesOfThePolicyToo(t *testing.T) {
	s := newScene(t)
	goods := programOf(t, "alice says good(carl). bob says up.")
	for _, x := range []struct {
		more  []api.Clause
		certs []string
	}{{goods[:1], s.certs[1:2]}, {goods[1:], s.certs[:1]}, {goods, nil}} {
		policy := append(slices.Clone(s.policy), x.more...)
		b := made(t, s.ring, policy, s.certs, s.goal, 9)
		if got, err := readAll(b); err != api.OK || !slices.Equal(got.certs, x.certs) {
			t.Errorf("P21.4: with %s there are %x, want %x", told(x.more), got.certs, x.certs)
		}
		wantMade(t, s.ring, policy, x.certs, s.goal, 9, b)
		wantShown(t, s.ring, policy, b, s.goal)
		wantNotShown(t, s.ring, s.policy, b, api.ErrForeign)
	}
}

// TestRulesNearThePolicys: a quote that differs from the policy's clause in one part alone needs its certificate, where the derivation names it.
func TestRulesNearThePolicys(t *testing.T) {
	r := ringOf(t, "s", "alice")
	b := said(t, r, "alice", "p(X) :- q(X), X != b.")
	used := 0
	for _, near := range texts("alice says p(X) :- alice says q(X), X != c.", "alice says p(X) :- alice says q(X).", "alice says p(X) :- q(X), X != b.", "bob says p(X) :- alice says q(X), X != b.", "p(X) :- q(X), X != b.", "alice says p(X) :- alice says q(X), b != X.", "alice says p(X) :- alice says q(X), X != b, X != b.", "alice says p(a) :- alice says q(a), a != b, a != c.") {
		x, err := readAll(made(t, r, programOf(t, "alice says q(a). "+near), texts(b), goalOf(t, "alice says p(a)"), 9))
		var want []string
		if hasClause(x.p.Rules, quoteOf(b)) {
			want = texts(b)
			used++
		}
		if err != api.OK || !slices.Equal(x.certs, want) {
			t.Errorf("P21.4: beside %s there are %x, want %x", near, x.certs, want)
		}
	}
	if used < 4 {
		t.Errorf("too much alike: %d", used)
	}
	x, err := readAll(made(t, r, programOf(t, "alice says q(a). alice says p(X) :- alice says q(X), X != b."), texts(b), goalOf(t, "alice says p(a)"), 9))
	if err != api.OK || len(x.certs) != 0 {
		t.Errorf("P21.4: there are %x", x.certs)
	}
}

// TestInRisingOrder: of their bytes, whatever the order of the list, of the rules and of the steps; not by their lengths.
func TestInRisingOrder(t *testing.T) {
	r := ringOf(t, "s", "a", "b", "bb", "c", "\xff")
	var certs []string
	policy := programOf(t, "all :- a says p, bb says p, b says p, c says p, \"\\xff\" says p, c says looooong(aaaaaaaaaaaa), b says x(b), a says x(1).")
	for _, u := range texts("\xff", "bb", "b", "a", "c") {
		certs = append(certs, said(t, r, u, "p."))
	}
	certs = append(certs, said(t, r, "c", "looooong(aaaaaaaaaaaa)."), said(t, r, "b", "x(b)."), said(t, r, "a", "x(1)."))
	want := slices.Sorted(slices.Values(certs))
	if slices.IsSortedFunc(want, func(x, y string) int { return len(x) - len(y) }) {
		t.Error("the shorter ones stand first")
	}
	c := newChosen(215)
	for range 20 {
		c.Shuffle(len(certs), func(i, k int) { certs[i], certs[k] = certs[k], certs[i] })
		if x, err := readAll(made(t, r, policy, certs, goalOf(t, "all"), 9)); err != api.OK || !slices.Equal(x.certs, want) {
			t.Errorf("P21.4: the certificates are %x, want %x", x.certs, want)
		}
	}
}

// TestMoreThanAreNeeded: another way to the goal, which the first derivation doesn't go, brings no certificate.
func TestMoreThanAreNeeded(t *testing.T) {
	r := ringOf(t, "s", "alice", "bob")
	policy := programOf(t, "ok :- alice says p. ok :- bob says p. ok :- bob says q. also(X) :- W says p(X).")
	a, b, q := said(t, r, "alice", "p."), said(t, r, "bob", "p."), said(t, r, "bob", "q.")
	a1, b1 := said(t, r, "alice", "p(1)."), said(t, r, "bob", "p(1).")
	all := texts(q, b1, b, a, a1)
	for _, x := range []struct {
		certs []string
		goal  string
		want  string
	}{{all, "ok", a}, {texts(q, b), "ok", b}, {texts(q), "ok", q}, {all, "also(1)", a1}, {texts(b1, q), "also(1)", b1}} {
		got, err := readAll(made(t, r, policy, x.certs, goalOf(t, x.goal), 9))
		if err != api.OK || !slices.Equal(got.certs, texts(x.want)) {
			t.Errorf("P21.4: for %s there are %x, want %x", x.goal, got.certs, x.want)
		}
	}
}

// TestOneQuoteOfTwoSigners: the quote of one's clause by him is another's than the same clause of another.
func TestOneQuoteOfTwoSigners(t *testing.T) {
	r := ringOf(t, "s", "alice", "bob")
	a, b := said(t, r, "alice", "p."), said(t, r, "bob", "p.")
	for _, x := range []struct{ goal, want string }{{"alice says p", a}, {"bob says p", b}} {
		got, err := readAll(made(t, r, nil, texts(b, a), goalOf(t, x.goal), 9))
		if err != api.OK || !slices.Equal(got.certs, texts(x.want)) {
			t.Errorf("P21.4: for %s there are %x", x.goal, got.certs)
		}
	}
}
