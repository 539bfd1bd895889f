package term_test

import (
	"slices"
	"testing"

	"hearsay/api"
	"hearsay/term"
)

// P2.7.

func TestLook(t *testing.T) {
	s := binds(bind(1, txt("a")), bind(1, txt("b")), bind(0, x(1)), bind(-3, num(9)), bind(5, none), bind(5, ann))
	for _, c := range []struct {
		s    api.Binding
		v    int
		want api.Term
		ok   bool
	}{
		{binds(bind(1, txt("a")), bind(1, txt("b"))), 1, txt("a"), true},
		{nil, 1, none, false},
		{binds(), 1, none, false},
		{s, 1, txt("a"), true},
		{s, 0, x(1), true},
		{s, -3, num(9), true},
		{s, 5, none, true},
		{s, 2, none, false},
		{s, -1, none, false},
		{s, leastInt, none, false},
		{s, greatestInt, none, false},
	} {
		if got, ok := term.Look(c.s, c.v); got != c.want || ok != c.ok {
			t.Errorf("Look(%v, %d) is %v, %v", c.s, c.v, got, ok)
		}
	}
}

// P2.8.

func TestApply(t *testing.T) {
	for _, c := range []struct {
		s       api.Binding
		a, want api.Atom
	}{
		{binds(bind(0, x(1)), bind(1, num(5))), p(x(0), x(1), x(2)), p(x(1), num(5), x(2))},
		{nil, says(x(0), x(1)), says(x(0), x(1))},
		{binds(bind(0, ann)), p(), p()},
		{binds(bind(0, ann)), says(x(0), x(0), ann, x(0)), says(ann, ann, ann, ann)},
		{binds(bind(0, ann), bind(0, bob)), p(x(0)), p(ann)},
		{binds(bind(0, none)), says(x(0), x(0)), says(none, none)},
		{binds(bind(9, ann), bind(-1, bob), bind(1, num(1))), p(x(-1), x(1)), p(x(-1), num(1))},
		{binds(bind(5, ann)), p(num(5), api.Term{Kind: api.KindVar, N: 5, S: "x"}, x(5)), p(num(5), api.Term{Kind: api.KindVar, N: 5, S: "x"}, ann)},
		{binds(bind(0, x(-7))), atom(num(3), "Not a name", x(0)), atom(num(3), "Not a name", x(-7))},
		{binds(bind(0, x(1)), bind(1, x(0))), says(x(1), x(0), x(1)), says(x(0), x(1), x(0))},
	} {
		if got := term.Apply(c.s, c.a); !sameAtoms(got, c.want) {
			t.Errorf("Apply(%v, %v) is %v", c.s, c.a, got)
		}
	}
}

func TestApplyLeavesEveryFixedTerm(t *testing.T) {
	for _, u := range append(validNowhere(), none, num(0), txt(""), ann) {
		s := binds(bind(u.N, bob), bind(0, bob))
		if got := term.Apply(s, says(u, u)); !sameAtoms(got, says(u, u)) {
			t.Errorf("Apply makes of %v: %v", u, got)
		}
	}
}

// P2.9.

type matchRow struct {
	p, a api.Atom
	s    api.Binding
	want api.Binding
	ok   bool
}

func checkMatches(t *testing.T, rows []matchRow) {
	t.Helper()
	for _, c := range rows {
		got, ok := term.Match(c.p, c.a, c.s)
		if ok != c.ok || !slices.Equal(got, c.want) {
			t.Errorf("Match(%v, %v, %v) is %v, %v; want %v, %v", c.p, c.a, c.s, got, ok, c.want, c.ok)
		}
	}
}

func TestMatchOfTheExamples(t *testing.T) {
	checkMatches(t, []matchRow{
		{p(x(0), x(1)), p(num(5), txt("a")), nil, binds(bind(0, num(5)), bind(1, txt("a"))), true},
		{p(x(0), x(0)), p(num(5), num(6)), nil, nil, false},
		{p(x(0)), atom(none, "q", num(5)), nil, nil, false},
		{p(x(0)), p(num(5)), binds(bind(0, num(6))), nil, false},
		{says(x(0), x(1)), says(ann, ann), binds(bind(7, num(5))), binds(bind(0, ann), bind(1, ann), bind(7, num(5))), true},
		{says(x(0)), p(), nil, nil, false},
		{p(), says(ann), nil, nil, false},
		{p(x(0), x(1)), p(x(1), x(2)), nil, binds(bind(0, x(1)), bind(1, x(2))), true},
	})
}

func TestMatchOfQualifiers(t *testing.T) {
	checkMatches(t, []matchRow{
		{p(), p(), nil, nil, true},
		{says(ann), says(ann), nil, nil, true},
		{says(ann), says(bob), nil, nil, false},
		{says(ann), p(), nil, nil, false},
		{says(ann), says(x(0)), nil, nil, false},
		{p(), says(x(0)), nil, nil, false},
		{says(x(0)), says(ann), nil, binds(bind(0, ann)), true},
		{says(x(0)), says(x(0)), nil, binds(bind(0, x(0))), true},
		{says(x(0)), says(x(4)), nil, binds(bind(0, x(4))), true},
		{says(x(0)), says(num(5)), nil, binds(bind(0, num(5))), true},
		{says(x(0)), says(txt("")), nil, binds(bind(0, txt(""))), true},
		{says(x(0)), says(x(-1)), nil, binds(bind(0, x(-1))), true},
		{says(x(0)), says(api.Term{Kind: -1}), nil, binds(bind(0, api.Term{Kind: -1})), true},
		{says(x(0)), says(api.Term{N: 1}), nil, nil, false},
		{says(x(0)), says(api.Term{S: "x"}), nil, nil, false},
		{says(x(0)), p(), binds(bind(0, none)), nil, false},
		{says(x(0), x(0)), says(ann, ann), nil, binds(bind(0, ann)), true},
		{says(x(0), x(0)), says(ann, bob), nil, nil, false},
		{says(x(0)), says(ann), binds(bind(0, ann)), binds(bind(0, ann)), true},
		{says(x(0)), says(ann), binds(bind(0, bob)), nil, false},
		{says(x(-1)), p(), nil, nil, false},
		{says(x(-1)), says(x(-1)), nil, nil, true},
	})
}

func TestMatchOfTermsThatAreValidNowhere(t *testing.T) {
	for _, u := range append(validNowhere(), none) {
		checkMatches(t, []matchRow{
			{p(u), p(u), nil, nil, true},
			{p(x(3)), p(u), nil, binds(bind(3, u)), true},
			{p(u), p(num(7)), binds(bind(u.N, num(7))), nil, false},
			{p(u), p(x(3)), nil, nil, false},
			{says(u), says(u), nil, nil, true},
		})
	}
	checkMatches(t, []matchRow{
		{p(num(5)), p(api.Term{Kind: api.KindNum, N: 5, S: "x"}), nil, nil, false},
		{p(api.Term{Kind: api.KindVar, N: 1, S: "x"}), p(num(5)), binds(bind(1, num(5))), nil, false},
		{atom(none, "Not a name", nTimes(20, x(0))...), atom(none, "Not a name", nTimes(20, num(1))...), nil, binds(bind(0, num(1))), true},
	})
}

func TestMatchKeepsWhatTheBindingSays(t *testing.T) {
	checkMatches(t, []matchRow{
		{p(), p(), binds(bind(9, num(1)), bind(-2, x(4)), bind(9, num(2)), bind(3, none)), binds(bind(-2, x(4)), bind(3, none), bind(9, num(1))), true},
		{p(x(0)), p(num(5)), binds(bind(0, num(5)), bind(0, num(6))), binds(bind(0, num(5))), true},
		{p(x(0)), p(num(5)), binds(bind(0, num(6)), bind(0, num(5))), nil, false},
		{p(x(1)), p(num(5)), binds(bind(2, x(1)), bind(0, x(1))), binds(bind(0, x(1)), bind(1, num(5)), bind(2, x(1))), true},
		{p(x(1)), p(num(5)), binds(bind(greatestInt, ann), bind(leastInt, bob)), binds(bind(leastInt, bob), bind(1, num(5)), bind(greatestInt, ann)), true},
		{p(x(0)), p(none), binds(bind(0, none)), binds(bind(0, none)), true},
		{p(x(0)), p(num(0)), binds(bind(0, none)), nil, false},
		{p(x(0)), p(x(1)), binds(bind(1, num(5))), binds(bind(0, x(1)), bind(1, num(5))), true},
		{p(x(0)), p(num(5)), binds(bind(0, x(1)), bind(1, num(5))), nil, false},
		{p(x(0)), p(x(1)), binds(bind(0, x(1))), binds(bind(0, x(1))), true},
		{p(num(5)), p(num(6)), binds(bind(0, num(5))), nil, false},
	})
}

func TestMatchAsksForNameAndNumberOfArguments(t *testing.T) {
	checkMatches(t, []matchRow{
		{p(), atom(none, "q"), nil, nil, false},
		{p(), atom(none, "pp"), nil, nil, false},
		{p(x(0)), p(), nil, nil, false},
		{p(), p(num(5)), nil, nil, false},
		{p(x(0), x(1)), p(num(5)), nil, nil, false},
		{p(x(0)), p(num(5), num(5)), nil, nil, false},
		{p(x(8), x(3), x(8), x(1)), p(ann, num(2), ann, num(4)), nil, binds(bind(1, num(4)), bind(3, num(2)), bind(8, ann)), true},
		{p(x(8), x(3), x(8), x(1)), p(ann, num(2), bob, num(4)), nil, nil, false},
		{p(x(8), num(5)), p(ann, num(6)), nil, nil, false},
	})
}

// matchBySearch: of all bindings of p's variables to a's terms, the one that makes p into a (the document's words, tried one by one).
func matchBySearch(pat, a api.Atom) (api.Binding, bool) {
	vars := slices.Sorted(slices.Values(term.Vars(pat)))
	tries := []api.Binding{{}}
	for _, v := range vars {
		var more []api.Binding
		for _, s := range tries {
			for _, to := range placesOf(a) {
				more = append(more, append(slices.Clone(s), bind(v, to)))
			}
		}
		tries = more
	}
	if !fixed(pat.By) && a.By.Kind == api.KindNone {
		return nil, false
	}
	for _, s := range tries {
		if sameAtoms(term.Apply(s, pat), a) {
			return s, true
		}
	}
	return nil, false
}

func TestMatchFindsWhatASearchFinds(t *testing.T) {
	bys := []api.Term{none, ann, x(0), x(1), num(5), x(-1)}
	args := []api.Term{none, ann, num(5), x(0), x(1), x(-1)}
	all := slices.Collect(someAtoms(bys, args))
	for _, pat := range all {
		for _, a := range all {
			got, ok := term.Match(pat, a, nil)
			want, should := matchBySearch(pat, a)
			if ok != should || !slices.Equal(got, want) {
				t.Fatalf("Match(%v, %v) is %v, %v; want %v, %v", pat, a, got, ok, want, should)
			}
		}
	}
}

// R3.

func TestBindingsAreLeftAsTheyAre(t *testing.T) {
	s := bindsWithSpare(binds(bind(3, num(1)), bind(3, num(2)), bind(1, x(0))))
	args := termsWithSpare([]api.Term{x(1), x(0), num(5)})
	facts := termsWithSpare([]api.Term{x(0), ann, num(5)})
	keptBinds, keptArgs, keptFacts := wholeBinds(s), wholeTerms(args), wholeTerms(facts)
	pat, a := api.Atom{Name: "p", Args: args}, api.Atom{Name: "p", Args: facts}
	term.Look(s, 3)
	applied := term.Apply(s, pat)
	matched, ok := term.Match(pat, a, s)
	if !ok || len(matched) != 3 {
		t.Fatalf("Match gives %v, %v", matched, ok)
	}
	again, _ := term.Match(pat, a, s)
	clear(applied.Args[:cap(applied.Args)])
	clear(matched[:cap(matched)])
	if changedBinds(s, keptBinds) || changedTerms(args, keptArgs) || changedTerms(facts, keptFacts) {
		t.Errorf("what was handed in became %v, %v, %v", s[:cap(s)], args[:cap(args)], facts[:cap(facts)])
	}
	if want := binds(bind(0, ann), bind(1, x(0)), bind(3, num(1))); !slices.Equal(again, want) {
		t.Errorf("two answers of Match share their memory: %v", again)
	}
}

func TestMatchOfAFixedAtomGivesNewMemory(t *testing.T) {
	s := bindsWithSpare(binds(bind(1, ann), bind(2, bob)))
	kept := wholeBinds(s)
	got, _ := term.Match(p(), p(), s)
	clear(got[:cap(got)])
	if changedBinds(s, kept) {
		t.Errorf("the binding that was handed in became %v", s[:cap(s)])
	}
}

func TestApplyWithoutBindsGivesNewMemory(t *testing.T) {
	args := termsWithSpare([]api.Term{num(5), ann})
	kept := wholeTerms(args)
	got := term.Apply(nil, api.Atom{Name: "p", Args: args})
	clear(got.Args[:cap(got.Args)])
	empty := term.Apply(nil, api.Atom{Name: "p", Args: args[:0]})
	clear(empty.Args[:cap(empty.Args)])
	if changedTerms(args, kept) {
		t.Errorf("the arguments that were handed in became %v", args[:cap(args)])
	}
}
