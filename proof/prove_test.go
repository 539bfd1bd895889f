package proof_test

import (
	"slices"
	"testing"

	"hearsay/api"
	"hearsay/proof"
)

// P11.1: models made by hand.

// wantPlain: Prove of every fact of the model, and of some other atoms, is what the plain version says. It counts the answers by their errors.
func wantPlain(t *testing.T, m api.Model, counts map[api.Errno]int, others ...api.Atom) {
	t.Helper()
	for _, k := range m.Facts {
		others = append(others, k.Fact)
	}
	for _, f := range others {
		want, wantErr := plainProve(m, f)
		got, err := proof.Prove(m, f)
		if !sameProof(got, want) || err != wantErr {
			t.Fatalf("P11.1: Prove(%v, %v) is\n%v, %d, want\n%v, %d", m, f, got, err, want, wantErr)
		}
		counts[err]++
	}
}

func TestNoFact(t *testing.T) {
	m := model(rules(rule(p(a)), rule(by(ann, p(a)))), known(p(a), 1, 0), known(by(ann, p(a)), 1, 1))
	wantProof(t, m, p(a), derivation(m.Rules[:1], step(0, nil)))
	wantProof(t, m, by(ann, p(a)), derivation(m.Rules[1:], step(0, nil)))
	for _, f := range atoms(p(), p(b), p(a, a), q(a), by(a, p(a)), by(v(0), p(a)), p(v(0)), p(num(0)), p(none), p(api.Term{Kind: api.KindText, N: 1, S: "a"}), p(api.Term{Kind: api.KindVar, S: "a"}), atom("P", a), api.Atom{}, by(api.Term{Kind: api.KindNone, N: 1}, p(a))) {
		wantErr(t, m, f, api.ErrNoFact)
	}
	for _, m := range []api.Model{{}, {Rounds: 3}, model(rules(rule(p(a))))} {
		wantErr(t, m, p(a), api.ErrNoFact)
		wantErr(t, m, api.Atom{}, api.ErrNoFact)
	}
}

// TestNoFactComesFirst: whatever else is wrong with the model.
func TestNoFactComesFirst(t *testing.T) {
	for _, m := range []api.Model{
		model(nil, known(p(a), 1, 0)),
		model(rules(rule(p(a), q(a))), known(p(a), 1, 0)),
		model(rules(rule(q(a), q(a))), known(p(a), 1, -1), known(q(a), 1, 0)),
	} {
		wantErr(t, m, p(b), api.ErrNoFact)
		wantErr(t, m, api.Atom{}, api.ErrNoFact)
		for _, k := range m.Facts {
			wantErr(t, m, k.Fact, api.ErrModel)
		}
	}
}

// TestFirstEntryCounts: of an atom that is told twice, where it is asked for and where it is leant on.
func TestFirstEntryCounts(t *testing.T) {
	rs := rules(rule(p(a)), rule(p(v(0))), rule(q(a), p(a)))
	good, bad, other := known(p(a), 1, 0), known(p(a), 1, 7), known(p(a), 1, 1, a)
	top := known(q(a), 2, 2)
	late := known(p(a), 2, 0)
	for _, l := range [][]api.Known{{good, bad, top}, {good, top, late}, {top, good, other}, {top, good, good, bad, late, other}} {
		m := model(rs, l...)
		wantProof(t, m, p(a), derivation(rules(rs[0]), step(0, nil)))
		wantProof(t, m, q(a), derivation(rules(rs[0], rs[2]), step(0, nil), step(1, nil, 0)))
	}
	for _, l := range [][]api.Known{{bad, good, top}, {bad, top, good, other}, {top, bad, good, good}} {
		m := model(rs, l...)
		wantErr(t, m, p(a), api.ErrModel)
		wantErr(t, m, q(a), api.ErrModel)
	}
	for _, l := range [][]api.Known{{late, good, top}, {top, late, good}, {late, top, good}} {
		m := model(rs, l...)
		wantProof(t, m, p(a), derivation(rules(rs[0]), step(0, nil)))
		wantErr(t, m, q(a), api.ErrModel)
	}
	m := model(rs, other, good, top)
	wantProof(t, m, p(a), derivation(rules(rs[1]), step(0, terms(a))))
	wantProof(t, m, q(a), derivation(rules(rs[1], rs[2]), step(0, terms(a)), step(1, nil, 0)))
	// Among many entries too, wherever the two stand.
	var many []api.Known
	for n := range 200 {
		many = append(many, known(p(num(n)), 1, 1, num(n)))
	}
	for i := range many {
		l := slices.Insert(slices.Clone(many), i, good)
		wantProof(t, model(rs, append(l, bad)...), p(a), derivation(rules(rs[0]), step(0, nil)))
		l[i] = bad
		wantErr(t, model(rs, append(l, good)...), p(a), api.ErrModel)
	}
}

// TestRounds: what is leant on has a smaller one; they needn't begin with 1, nor be one behind the other.
func TestRounds(t *testing.T) {
	rs := rules(rule(p(a)), rule(q(a), p(a)))
	edges := []int{leastInt, leastInt + 1, -5, -1, 0, 1, 2, 3, 77, greatestInt - 1, greatestInt}
	for i, low := range edges {
		for k, high := range edges {
			m := model(rs, known(p(a), low, 0), known(q(a), high, 1))
			wantProof(t, m, p(a), derivation(rs[:1], step(0, nil)))
			if i < k {
				wantProof(t, m, q(a), derivation(rs, step(0, nil), step(1, nil, 0)))
			} else {
				wantErr(t, m, q(a), api.ErrModel)
			}
		}
	}
	// Each of several atoms is looked at.
	three := rules(rule(p(a)), rule(p(b)), rule(p(c)), rule(q(a), p(a), p(b), p(c)))
	for late := range 4 {
		m := model(three, known(p(a), 1, 0), known(p(b), 1, 1), known(p(c), 1, 2), known(q(a), 2, 3))
		m.Facts[late].Round = 2
		if late == 3 {
			wantProof(t, m, q(a), derivation(three, step(0, nil), step(1, nil), step(2, nil), step(3, nil, 0, 1, 2)))
		} else {
			wantErr(t, m, q(a), api.ErrModel)
		}
	}
	// The number of rounds isn't looked at.
	for _, n := range []int{leastInt, 0, 2, greatestInt} {
		m := model(rs, known(p(a), 4, 0), known(q(a), 5, 1))
		m.Rounds = n
		wantProof(t, m, q(a), derivation(rs, step(0, nil), step(1, nil, 0)))
	}
}

// TestRings: entries that lean on themselves and on one another, with all rounds.
func TestRings(t *testing.T) {
	self := rules(rule(p(a), p(a)), rule(p(v(0)), p(v(0))), rule(p(a), q(a), p(a)), rule(q(a)))
	for place := range 3 {
		for _, round := range []int{leastInt, -1, 0, 1, greatestInt} {
			m := model(self, known(p(a), round, place, a), known(q(a), leastInt, 3))
			wantErr(t, m, p(a), api.ErrModel)
			wantProof(t, m, q(a), derivation(self[3:], step(0, nil)))
		}
	}
	ring := rules(rule(p(a), q(a)), rule(q(a), r(a)), rule(r(a), p(a)), rule(s(a), r(a)))
	for x := range 4 {
		for y := range 4 {
			for z := range 4 {
				m := model(ring, known(p(a), x, 0), known(q(a), y, 1), known(r(a), z, 2), known(s(a), 9, 3))
				for _, f := range atoms(p(a), q(a), r(a), s(a)) {
					wantErr(t, m, f, api.ErrModel)
				}
			}
		}
	}
}

func TestRulesThatAreNoPlace(t *testing.T) {
	rs := rules(rule(p(a)), rule(q(a), p(a)))
	for _, place := range []int{leastInt, -2, -1, 0, 1, 2, 3, 1 << 32, 1<<32 + 1, greatestInt} {
		m := model(rs, known(p(a), 1, place), known(q(a), 2, 1))
		if place == 0 {
			wantProof(t, m, q(a), derivation(rs, step(0, nil), step(1, nil, 0)))
			continue
		}
		wantErr(t, m, p(a), api.ErrModel) // the rule 1 has another head
		wantErr(t, m, q(a), api.ErrModel)
	}
	wantErr(t, model(nil, known(p(a), 1, 0)), p(a), api.ErrModel)
	wantErr(t, model(nil, known(api.Atom{}, 1, 0)), api.Atom{}, api.ErrModel)
	wantErr(t, model(nil, known(api.Atom{}, 1, -1)), api.Atom{}, api.ErrModel)
}

func TestValues(t *testing.T) {
	rs := rules(rule(p(v(0), v(1)), q(v(0), v(2))), rule(p(v(0), v(1)), q(a, c)), rule(q(a, c)), rule(q(a, v(2))))
	of := func(k api.Known) api.Model {
		return model(rs, k, known(q(a, c), 1, 2), known(q(a, v(2)), 1, 3))
	}
	// fits: k's derivation is a step of the rule lower and one of its own.
	fits := func(k api.Known, lower int) {
		t.Helper()
		want := derivation(rules(rs[k.Rule], rs[lower]), step(1, nil), step(0, k.Vals, 0))
		wantProof(t, of(k), k.Fact, want)
	}
	fails := func(k api.Known) { t.Helper(); wantErr(t, of(k), k.Fact, api.ErrModel) }
	fits(known(p(a, b), 2, 0, a, b, c), 2)
	fails(known(p(a, b), 2, 0))
	fails(known(p(a, b), 2, 0, a))
	fails(known(p(a, b), 2, 0, b, a, c))
	fails(known(p(a, b), 2, 0, a, b, a))
	fails(known(p(a, b), 2, 0, txt("A"), b, c))
	// What has no value stays a variable; an entry of just that atom will do.
	fits(known(p(a, b), 2, 0, a, b), 3)
	fits(known(p(a, v(1)), 2, 0, a), 3)
	fits(known(p(v(0), v(1)), 2, 1), 2)
	fails(known(p(v(0), v(1)), 2, 0))
	// Values too many stay, and count for nothing.
	fits(known(p(a, b), 2, 0, a, b, c, none, odd, v(7)), 2)
	// Values that are variables aren't replaced again.
	fits(known(p(a, v(0)), 2, 0, a, v(0), v(2)), 3)
	fails(known(p(a, a), 2, 0, a, v(0), c))
	m := model(rs, known(q(a, c), 1, 2, a, v(0), odd))
	wantProof(t, m, q(a, c), derivation(rs[2:3], step(0, terms(a, v(0), odd))))
}

func TestHeadIsAnother(t *testing.T) {
	rs := rules(rule(p(a, v(0)), q(v(0))), rule(q(b)))
	for _, f := range atoms(p(a), p(a, b, b), p(b, a), p(b, b), p(a, v(0)), q(a, b), by(ann, p(a, b)), atom("P", a, b), p(a, txt("B")), p(a, num(0)), api.Atom{}) {
		wantErr(t, model(rs, known(f, 2, 0, b), known(q(b), 1, 1)), f, api.ErrModel)
	}
	wantProof(t, model(rs, known(p(a, b), 2, 0, b), known(q(b), 1, 1)), p(a, b), derivation(rs, step(1, nil), step(0, terms(b), 0)))
}

// TestBodyWithoutEntry: whichever atom of the body it is, and however near an entry is.
func TestBodyWithoutEntry(t *testing.T) {
	body := atoms(q(a), by(ann, q(a)), q(a, b))
	rs := rules(rule(p(), body...), rule(body[0]), rule(body[1]), rule(body[2]))
	all := []api.Known{known(p(), 2, 0), known(body[0], 1, 1), known(body[1], 1, 2), known(body[2], 1, 3)}
	wantProof(t, model(rs, all...), p(), derivation(rules(rs[0], rs[1], rs[2], rs[3]), step(1, nil), step(2, nil), step(3, nil), step(0, nil, 0, 1, 2)))
	for gone := 1; gone < 4; gone++ {
		m := model(rs, slices.Delete(slices.Clone(all), gone, gone+1)...)
		wantErr(t, m, p(), api.ErrModel)
		wantErr(t, m, body[gone-1], api.ErrNoFact)
	}
	wantErr(t, model(rs, all[0]), p(), api.ErrModel)
}

// TestMetOrNot: an entry that doesn't hold together is an error just for what leans on it, by however many steps.
func TestMetOrNot(t *testing.T) {
	rs := rules(rule(p(num(0))), rule(p(v(0)), p(v(1))), rule(q(v(0)), p(v(0)), p(v(1))))
	chain := func() api.Model {
		m := model(rs, known(p(num(0)), 1, 0))
		for n := 1; n < 20; n++ {
			m.Facts = append(m.Facts, known(p(num(n)), n+1, 1, num(n), num(n-1)))
		}
		return m
	}
	spoils := []func(k *api.Known){
		func(k *api.Known) { k.Rule = 3 },
		func(k *api.Known) { k.Rule = -1 },
		func(k *api.Known) { k.Vals = terms(num(77), num(0)) },
		func(k *api.Known) { k.Vals = terms(k.Fact.Args[0], num(99)) },
		func(k *api.Known) { k.Round = leastInt },
	}
	for at := 1; at < 20; at++ {
		for _, spoil := range spoils {
			m := chain()
			spoil(&m.Facts[at])
			for n := range 20 {
				if _, err := proof.Prove(m, p(num(n))); (err == api.OK) != (n < at) || err != api.OK && err != api.ErrModel {
					t.Errorf("P11.1: with the entry %d of a chain spoilt, that of %d is %d", at, n, err)
				}
			}
			// Met behind what is put down already, and ahead of it.
			m.Facts = append(m.Facts, known(q(num(0)), 99, 2, num(0), num(at)), known(q(num(at)), 99, 2, num(at), num(0)), known(q(num(1)), 99, 2, num(at-1), num(0)))
			wantErr(t, m, q(num(0)), api.ErrModel)
			wantErr(t, m, q(num(at)), api.ErrModel)
		}
	}
}

// TestOrderOfSteps: what is leant on from the first to the last, each ahead of what leans on it, none twice, however often it is wanted.
func TestOrderOfSteps(t *testing.T) {
	low, mid, high := s(), r(), q()
	rs := rules(rule(p(), high, low, mid, high), rule(high, mid, low, mid), rule(mid, low), rule(low))
	m := model(rs, known(p(), 4, 0), known(high, 3, 1), known(mid, 2, 2), known(low, 1, 3))
	want := derivation(rs, step(3, nil), step(2, nil, 0), step(1, nil, 1, 0, 1), step(0, nil, 2, 0, 1, 2))
	wantProof(t, m, p(), want)
	// What comes ahead in the body comes ahead in the list, whatever rounds, places and orders they have.
	wide := rules(rule(p(), s(c), s(a), s(b), s(a)), rule(s(b)), rule(s(v(0)), q(v(0))), rule(q(v(0))))
	for _, rounds := range [][]int{{3, 4, 5}, {5, 4, 3}, {4, 5, 3}} {
		m := model(wide, known(s(a), rounds[0], 2, a), known(p(), 9, 0), known(s(b), rounds[1], 1), known(q(c), 1, 3, c), known(s(c), rounds[2], 2, c), known(q(a), 2, 3, a))
		wantProof(t, m, p(), derivation(rules(wide[0], wide[3], wide[1], wide[2]),
			step(1, terms(c)), step(3, terms(c), 0), step(1, terms(a)), step(3, terms(a), 2), step(2, nil), step(0, nil, 1, 3, 4, 3)))
	}
	twice := rules(rule(p(v(0)), q(v(0)), q(v(0)), q(v(1)), q(v(0))), rule(q(a)))
	wantProof(t, model(twice, known(p(a), 2, 0, a, a), known(q(a), 1, 1)), p(a), derivation(twice, step(1, nil), step(0, terms(a, a), 0, 0, 0, 0)))
}

// places: all those at which the clause stands.
func places(rs []api.Clause, of api.Clause) []int {
	var out []int
	for i, c := range rs {
		if sameClause(c, of) {
			out = append(out, i)
		}
	}
	return out
}

// TestRulesOfTheAnswer: those that are named, in order, none twice, valid or not.
func TestRulesOfTheAnswer(t *testing.T) {
	x, y, z := rule(p(a)), rule(q(a), p(a)), rule(r(a), q(a), p(a))
	for _, rs := range [][]api.Clause{{x, y, z, x, y, z}, {z, {}, x, y, rule(atom("zz")), z, x, y, rule(atom("a")), {}}} {
		for _, nth := range [][]int{{0, 0, 0}, {1, 1, 1}, {0, 1, 0}, {1, 0, 1}} {
			m := model(rs, known(p(a), 1, places(rs, x)[nth[0]]), known(q(a), 2, places(rs, y)[nth[1]]), known(r(a), 3, places(rs, z)[nth[2]]))
			wantProof(t, m, r(a), derivation(rules(x, y, z), step(0, nil), step(1, nil, 0), step(2, nil, 1, 0)))
			wantProof(t, m, p(a), derivation(rules(x), step(0, nil)))
		}
	}
	// The same rule at two places, for two facts.
	same := rules(rule(p(v(0))), rule(q(), p(b), p(a)), rule(p(v(0))))
	wantProof(t, model(same, known(p(a), 1, 0, a), known(p(b), 1, 2, b), known(q(), 2, 1)), q(), derivation(same[:2], step(0, terms(b)), step(0, terms(a)), step(1, nil, 0, 1)))
	// Rules that aren't valid, for each reason; and tests, which aren't looked at.
	bad := []api.Clause{
		{},
		with(rule(p(a)), test(api.OpEq, a, b)),
		with(rule(p(a)), test(9, none, odd)),
		with(rule(p(a)), nTimes(9, test(api.OpEq, a, a))...),
		rule(p(v(1))),
		rule(p(v(7))),
		rule(by(v(0), p(a))),
		rule(by(num(5), p(a))),
		rule(p(none)),
		rule(p(odd, v(-1))),
		rule(p(nTimes(9, a)...)),
		rule(atom("says")),
		rule(atom(long(33))),
	}
	for _, c := range bad {
		wantProof(t, model(rules(c), known(c.Head, 1, 0)), c.Head, derivation(rules(c), step(0, nil)))
		top := rule(q(), c.Head)
		wantProof(t, model(rules(c, top), known(q(), 2, 1), known(c.Head, 1, 0)), q(), ruled([]api.Step{step(0, nil), step(0, nil, 0)}, rules(c, top)))
	}
	nine := rule(p(), nTimes(9, q())...)
	wantProof(t, model(rules(nine, rule(q())), known(p(), 2, 0), known(q(), 1, 1)), p(), derivation(rules(nine, rule(q())), step(1, nil), step(0, nil, nTimes(9, 0)...)))
}

// nasty: atoms that differ, and that are easily taken for one another: by their texts, as most have none, by texts laid one behind the other, by lengths and borders.
func nasty() []api.Atom {
	l := atoms(api.Atom{}, p(), q(), p(a), p(b), p(a, b), p(b, a), p(txt("ab")), p(txt("a, b")), p(txt("a b")), p(num(1)), p(txt("1")), p(v(1)), p(txt("V1")), p(none), p(none, none), p(odd),
		p(v(-1)), p(v(-2)), p(txt("")), p(txt(""), txt("")), p(txt("\x00")), p(txt(" ")), p(txt("0 ")), p(num(0)), p(v(0)), p(num(-1)), p(num(10)), p(num(1), num(0)), p(txt("10")), p(txt("1"), txt("0")),
		atom(""), atom("", a), atom("P"), atom("P", a), atom("P", b), atom("p(a)"), atom("ann says p", a), atom("p", txt("a)")), atom("pa"), atom("p a"), atom("p 0"), atom("p0 "), atom("2 p"), atom("says"), atom(long(33)), atom(long(34)),
		by(ann, p()), by(ann, p(a)), by(v(0), p(a)), by(v(1), p(a)), by(a, p()), by(none, p(ann)), by(a, p(a)), by(a, p(b)), by(b, p(a)), by(num(1), p(a)), by(num(2), p(a)), by(txt(""), p(a)), by(odd, p(a)), by(v(-1), p(a)),
		by(api.Term{N: 1}, p(a)), by(api.Term{S: "a"}, p(a)), by(api.Term{S: "ann"}, p()), p(api.Term{N: 1}), p(api.Term{S: "a"}), p(api.Term{Kind: 2, N: 1, S: "a"}), p(api.Term{Kind: 3, N: 1, S: "a"}), p(api.Term{Kind: 9, N: 1, S: "a"}), p(api.Term{Kind: -1, N: 1, S: "a"}),
		p(api.Term{Kind: 11}), p(api.Term{Kind: 1, N: 1}), p(api.Term{Kind: 1, N: 11}), p(api.Term{Kind: 11, N: 1}), p(api.Term{Kind: 2, N: 2, S: "2 2 "}), p(txt("1 a2 0 1 b")), p(txt("a2 0 1 b")), p(txt("a2 0 b")), p(txt("a 2 0 b")), p(txt("a,b")), p(txt("a\x00b")), p(txt("{2 0 a} {2 0 b}")), atom("p0 0 "), atom("p 0 0 "), p(a, api.Term{Kind: 2, N: 0, S: "b"}, none),
		p(nTimes(8, a)...), p(nTimes(9, a)...), p(nTimes(10, a)...), p(num(leastInt)), p(num(greatestInt)), p(v(leastInt)), p(txt(long(64))), p(txt(long(65))), p(txt(long(66))), p(txt("\xff")), p(txt("\ufffd")))
	return inOrder(l, compareAtoms)
}

// TestFactsThatAreNone: every atom is a fact of a model made by hand; those that have no text, or the same one, are told apart.
func TestFactsThatAreNone(t *testing.T) {
	for _, x := range nasty() {
		wantProof(t, model(rules(rule(x)), known(x, 1, 0)), x, derivation(rules(rule(x)), step(0, nil)))
		for _, y := range nasty() {
			top := atom("top")
			rs := rules(rule(x), rule(y), rule(top, x, y, x))
			m := model(rs, known(x, 1, 0), known(y, 1, 1), known(top, 2, 2))
			want := ruled([]api.Step{step(0, nil), step(0, nil), step(0, nil, 0, 1, 0)}, rs)
			if sameAtom(x, y) {
				want = ruled([]api.Step{step(0, nil), step(0, nil, 0, 0, 0)}, rs[1:])
			}
			wantProof(t, m, top, want)
			if m := model(rs, known(x, 1, 0), known(top, 2, 2)); !sameAtom(x, y) {
				wantErr(t, m, y, api.ErrNoFact)
				wantErr(t, m, top, api.ErrModel)
			}
		}
	}
}

// TestLongChains: of entries one upon the other, in rising order, in falling order and amid others.
func TestLongChains(t *testing.T) {
	const n = 100000
	rs := rules(rule(p(num(0))), rule(p(v(0)), p(v(1))))
	m := model(rs, known(p(num(0)), 0, 0))
	want := derivation(rs, step(0, nil))
	for i := 1; i < n; i++ {
		m.Facts = append(m.Facts, known(p(num(i)), i, 1, num(i), num(i-1)))
		want.Steps = append(want.Steps, step(1, terms(num(i), num(i-1)), i-1))
	}
	for range 2 {
		got, err := proof.Prove(m, p(num(n-1)))
		if !sameProof(got, want) || err != api.OK {
			t.Fatalf("P11.1: of a chain of %d entries: %d, %d steps", n, err, len(got.Steps))
		}
		if d := proof.Depth(got); d != n {
			t.Errorf("P11.4: the depth of a chain of %d steps is %d", n, d)
		}
		slices.Reverse(m.Facts)
	}
	if trimmed := proof.Trim(want); !sameProof(trimmed, want) {
		t.Errorf("P11.7: of a chain of %d steps Trim leaves %d", n, len(trimmed.Steps))
	}
	m.Facts[0].Rule = 2
	wantErr(t, m, p(num(n-1)), api.ErrModel)
	// Each wants the one below it twice: as many ways as there are numbers of 200 bits.
	double := model(rules(rule(p(num(0))), rule(p(v(0)), p(v(1)), p(v(1)))), known(p(num(0)), 0, 0))
	for i := 1; i < 200; i++ {
		double.Facts = append(double.Facts, known(p(num(i)), i, 1, num(i), num(i-1)))
	}
	if got, err := proof.Prove(double, p(num(199))); len(got.Steps) != 200 || err != api.OK || proof.Depth(got) != 200 || !sameProof(proof.Trim(got), got) {
		t.Errorf("P11.1: of 200 entries each of which leans on another one twice: %d, %d steps", err, len(got.Steps))
	}
}

// TestModelsByChance: beside the plain version.
func TestModelsByChance(t *testing.T) {
	counts := map[api.Errno]int{}
	steps := 0
	for seed := range int64(3000) {
		c := newChosen(seed)
		m := c.model()
		wantPlain(t, m, counts, c.anyAtom(), c.anyAtom(), p(a, b), api.Atom{})
		for _, k := range m.Facts {
			got, _ := proof.Prove(m, k.Fact)
			steps = max(steps, len(got.Steps))
			if !sameProof(proof.Trim(got), got) {
				t.Errorf("P11.7: Trim of what Prove(%v, %v) answers changes it", m, k.Fact)
			}
		}
	}
	if counts[api.OK] < 5000 || counts[api.ErrModel] < 1000 || counts[api.ErrNoFact] < 1000 || steps < 7 {
		t.Errorf("the models by chance are too much alike: %v, at most %d steps", counts, steps)
	}
}
