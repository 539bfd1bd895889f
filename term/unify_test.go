package term_test

import (
	"slices"
	"testing"

	"hearsay/api"
	"hearsay/term"
)

// P2.10.

type unifyRow struct {
	a, b api.Atom
	want api.Binding
	ok   bool
}

// checkUnified: both ways round, as the promise doesn't tell the two atoms apart.
func checkUnified(t *testing.T, rows []unifyRow) {
	t.Helper()
	for _, c := range rows {
		if got, ok := term.Unify(c.a, c.b); ok != c.ok || !slices.Equal(got, c.want) {
			t.Errorf("Unify(%v, %v) is %v, %v; want %v, %v", c.a, c.b, got, ok, c.want, c.ok)
		}
		if got, ok := term.Unify(c.b, c.a); ok != c.ok || !slices.Equal(got, c.want) {
			t.Errorf("Unify(%v, %v) is %v, %v; want %v, %v", c.b, c.a, got, ok, c.want, c.ok)
		}
	}
}

func TestUnifyOfTheExamples(t *testing.T) {
	checkUnified(t, []unifyRow{
		{p(x(0), x(1), x(2)), p(x(1), x(2), num(5)), binds(bind(0, num(5)), bind(1, num(5)), bind(2, num(5))), true},
		{p(x(3), x(1)), p(x(1), x(2)), binds(bind(2, x(1)), bind(3, x(1))), true},
		{p(x(0), x(0)), p(num(5), num(6)), nil, false},
		{says(x(0), x(0)), says(ann, num(5)), nil, false},
		{says(x(0), x(1)), says(x(1), num(5)), nil, false},
		{says(x(0)), p(), nil, false},
		{says(x(0)), says(ann), binds(bind(0, ann)), true},
		{p(), p(), nil, true},
	})
}

func TestUnifyOfQualifiers(t *testing.T) {
	checkUnified(t, []unifyRow{
		{says(ann), says(ann), nil, true},
		{says(ann), says(bob), nil, false},
		{says(ann), p(), nil, false},
		{says(num(5)), says(num(5)), nil, true},
		{says(x(-1)), says(x(-1)), nil, true},
		{says(x(0)), says(num(5)), nil, false},
		{says(x(0)), says(txt("")), nil, false},
		{says(x(0)), says(x(-1)), nil, false},
		{says(x(0)), says(api.Term{N: 1}), nil, false},
		{says(x(0)), says(txt(long(64))), binds(bind(0, txt(long(64)))), true},
		{says(x(0)), says(txt(long(65))), nil, false},
		{says(x(0)), says(x(0)), nil, true},
		{says(x(2)), says(x(1)), binds(bind(2, x(1))), true},
		{says(x(0), x(0)), says(x(0), num(5)), nil, false},
		{says(x(0), x(0)), says(x(0), none), nil, false},
		{says(x(0), x(0)), says(x(0), ann), binds(bind(0, ann)), true},
		{says(x(0), x(0)), says(ann, bob), nil, false},
		{says(x(0), x(1), x(1)), says(ann, x(0), ann), binds(bind(0, ann), bind(1, ann)), true},
		{says(x(0), x(1), x(2)), says(x(1), x(2), num(5)), nil, false},
		{says(x(0), x(1), x(2)), says(x(1), x(2), ann), binds(bind(0, ann), bind(1, ann), bind(2, ann)), true},
		{says(ann, x(0)), says(ann, none), binds(bind(0, none)), true},
		{says(ann, x(0)), says(x(1), num(5)), binds(bind(0, num(5)), bind(1, ann)), true},
		{p(x(0)), says(x(0), x(0)), nil, false},
	})
}

// TestUnifyOfAQualifierThatIsLinkedWithNothing: the same variable says both, so that no class has it until the qualifier is asked about; with other classes ahead, and without.
func TestUnifyOfAQualifierThatIsLinkedWithNothing(t *testing.T) {
	checkUnified(t, []unifyRow{
		{says(x(0)), says(x(0)), nil, true},
		{says(x(greatestInt)), says(x(greatestInt)), nil, true},
		{says(x(0), num(5), x(1)), says(x(0), num(5), x(1)), nil, true},
		{says(x(0), x(1)), says(x(0), num(5)), binds(bind(1, num(5))), true},
		{says(x(2), x(1)), says(x(2), x(0)), binds(bind(1, x(0))), true},
	})
	for n := range 20 {
		a, b := says(x(0)), says(x(0))
		var want api.Binding
		for i := range n {
			a.Args, b.Args = append(a.Args, x(i+1)), append(b.Args, num(i))
			want = append(want, bind(i+1, num(i)))
		}
		checkUnified(t, []unifyRow{{a, b, want, true}})
	}
}

func TestUnifyOfClasses(t *testing.T) {
	checkUnified(t, []unifyRow{
		{p(x(4)), p(x(4)), nil, true},
		{p(num(5), ann), p(num(5), ann), nil, true},
		{p(num(5)), p(txt("5")), nil, false},
		{p(x(0), x(1), x(0)), p(x(1), num(5), num(6)), nil, false},
		{p(x(0), x(1), x(0)), p(x(1), num(5), num(5)), binds(bind(0, num(5)), bind(1, num(5))), true},
		{p(x(0), x(1)), p(num(5), num(5)), binds(bind(0, num(5)), bind(1, num(5))), true},
		{p(x(7), x(5), x(3), x(1)), p(x(6), x(4), x(2), x(0)), binds(bind(1, x(0)), bind(3, x(2)), bind(5, x(4)), bind(7, x(6))), true},
		{p(x(1), x(3), x(1), x(4)), p(x(2), x(4), x(3), x(0)), binds(bind(1, x(0)), bind(2, x(0)), bind(3, x(0)), bind(4, x(0))), true},
		{p(x(1), x(3), x(1)), p(x(2), x(4), x(3)), binds(bind(2, x(1)), bind(3, x(1)), bind(4, x(1))), true},
		{p(x(1), x(3), x(1), x(4)), p(x(2), x(4), x(3), ann), binds(bind(1, ann), bind(2, ann), bind(3, ann), bind(4, ann)), true},
		{p(ann, x(3), x(1), x(4)), p(x(2), x(4), x(3), ann), binds(bind(1, ann), bind(2, ann), bind(3, ann), bind(4, ann)), true},
		{p(ann, x(1), x(2)), p(x(1), x(2), bob), nil, false},
		{p(x(0), x(0), x(1), x(1)), p(x(2), x(1), x(0), x(2)), binds(bind(1, x(0)), bind(2, x(0))), true},
		{p(x(greatestInt)), p(x(0)), binds(bind(greatestInt, x(0))), true},
	})
}

func TestUnifyTakesWhatIsValidNowhereForFixed(t *testing.T) {
	for _, u := range append(validNowhere(), none) {
		checkUnified(t, []unifyRow{
			{p(u), p(u), nil, true},
			{p(x(3)), p(u), binds(bind(3, u)), true},
			{p(u), p(num(7)), nil, false},
			{p(x(3), x(3)), p(u, num(7)), nil, false},
			{says(u), says(u), nil, true},
			{says(x(3)), says(u), nil, false},
		})
	}
}

func TestUnifyAsksForNameAndNumberOfArguments(t *testing.T) {
	checkUnified(t, []unifyRow{
		{p(), atom(none, "q"), nil, false},
		{p(x(0)), atom(none, "q", x(0)), nil, false},
		{p(x(0)), p(), nil, false},
		{p(x(0)), p(x(0), x(1)), nil, false},
		{atom(none, "Not a name", nTimes(30, x(1))...), atom(none, "Not a name", nTimes(30, x(0))...), binds(bind(1, x(0))), true},
	})
}

// classOf: the terms that are linked with t, directly or by way of others.
func classOf(t api.Term, a, b []api.Term) []api.Term {
	class := []api.Term{t}
	for i := 0; i < len(class); i++ {
		for k := range a {
			if a[k] == class[i] && !slices.Contains(class, b[k]) {
				class = append(class, b[k])
			}
			if b[k] == class[i] && !slices.Contains(class, a[k]) {
				class = append(class, a[k])
			}
		}
	}
	return class
}

// unifyByClasses: the promise's words, class by class.
func unifyByClasses(a, b api.Atom) (api.Binding, bool) {
	if a.Name != b.Name || len(a.Args) != len(b.Args) {
		return nil, false
	}
	l, r := placesOf(a), placesOf(b)
	var out api.Binding
	for _, t := range slices.Concat(l, r) {
		var fixedOnes []api.Term
		least := x(greatestInt)
		class := classOf(t, l, r)
		for _, u := range class {
			if fixed(u) {
				fixedOnes = append(fixedOnes, u)
			} else {
				least.N = min(least.N, u.N)
			}
		}
		qualifier := !fixed(a.By) && slices.Contains(class, a.By) || !fixed(b.By) && slices.Contains(class, b.By)
		if len(fixedOnes) > 1 || qualifier && len(fixedOnes) == 1 && !principal(fixedOnes[0]) {
			return nil, false
		}
		if len(fixedOnes) == 1 {
			least = fixedOnes[0]
		}
		if said := bind(t.N, least); !fixed(t) && t != least && !slices.Contains(out, said) {
			out = append(out, said)
		}
	}
	slices.SortFunc(out, func(a, b api.Bind) int { return a.Var - b.Var })
	return out, true
}

func TestUnifyFindsWhatTheClassesSay(t *testing.T) {
	bys := []api.Term{none, ann, num(5), x(-1), x(0), x(1), x(2)}
	args := []api.Term{none, ann, num(5), x(-1), x(0), x(1), x(2)}
	all := slices.Collect(someAtoms(bys, args))
	for _, a := range all {
		for _, b := range all {
			got, ok := term.Unify(a, b)
			want, should := unifyByClasses(a, b)
			if ok != should || !slices.Equal(got, want) {
				t.Fatalf("Unify(%v, %v) is %v, %v; want %v, %v", a, b, got, ok, want, should)
			}
		}
	}
}

// longAtom: places of few terms and many variables, by a rule that mixes them.
func longAtom(seed int) api.Atom {
	var l []api.Term
	for i := range 40 {
		seed = (seed*1103515245 + 12345) & 0x7fffffff
		n := (seed >> 8) % 120
		switch {
		case n == 0 && i > 0:
			l = append(l, ann)
		case n == 1 && i > 0:
			l = append(l, bob)
		default:
			l = append(l, x(n))
		}
	}
	return says(l[0], l[1:]...)
}

func TestUnifyOfLongAtoms(t *testing.T) {
	unified := 0
	for seed := range 200 {
		a, b := longAtom(seed), longAtom(seed+1000)
		got, ok := term.Unify(a, b)
		if ok {
			unified++
		}
		want, should := unifyByClasses(a, b)
		if ok != should || !slices.Equal(got, want) {
			t.Fatalf("Unify(%v, %v) is %v, %v; want %v, %v", a, b, got, ok, want, should)
		}
	}
	if unified == 0 || unified == 200 {
		t.Errorf("%d of 200 pairs can be unified: the test has one kind of pairs alone", unified)
	}
}

func TestWhatUnifyAnswersMakesTheAtomsTheSame(t *testing.T) {
	terms := []api.Term{none, ann, x(0), x(1), x(2)}
	all := slices.Collect(someAtoms(terms, terms))
	for _, a := range all {
		for _, b := range all {
			u, ok := term.Unify(a, b)
			if !ok {
				continue
			}
			one, other := term.Apply(u, a), term.Apply(u, b)
			if !sameAtoms(one, other) || !sameAtoms(one, term.Apply(u, one)) {
				t.Fatalf("Unify(%v, %v) is %v, which makes %v and %v of them", a, b, u, one, other)
			}
		}
	}
}

// R3.

func TestUnifyLeavesTheAtomsAsTheyAre(t *testing.T) {
	l, r := termsWithSpare([]api.Term{x(3), x(1), ann}), termsWithSpare([]api.Term{x(1), x(2), ann})
	keptL, keptR := wholeTerms(l), wholeTerms(r)
	a, b := api.Atom{Name: "p", Args: l}, api.Atom{Name: "p", Args: r}
	got, _ := term.Unify(a, b)
	again, _ := term.Unify(a, b)
	clear(got[:cap(got)])
	if changedTerms(l, keptL) || changedTerms(r, keptR) {
		t.Errorf("the arguments became %v, %v", l[:cap(l)], r[:cap(r)])
	}
	if !slices.Equal(again, binds(bind(2, x(1)), bind(3, x(1)))) {
		t.Errorf("two answers of Unify share their memory: %v", again)
	}
}
