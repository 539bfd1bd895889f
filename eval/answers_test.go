package eval_test

import (
	"slices"
	"testing"

	"hearsay/api"
)

// P10.6.

// made: a model of these atoms, with nothing else.
func made(l ...api.Atom) api.Model {
	var m api.Model
	for _, f := range l {
		m.Facts = append(m.Facts, api.Known{Fact: f})
	}
	return m
}

// oddTerms: of every kind, those that are valid nowhere too.
func oddTerms() []api.Term {
	return terms(none, a, b, ann, num(5), txt("5"), txt(""), txt(long(65)), v(0), v(1), v(7), v(-1), v(greatestInt), api.Term{N: 1}, api.Term{S: "a"}, api.Term{Kind: api.KindNum, N: 5, S: "a"}, api.Term{Kind: api.KindVar, N: 0, S: "a"}, api.Term{Kind: 9}, api.Term{Kind: -1, N: leastInt})
}

// someAtoms: valid or not, with few names.
func someAtoms(c *chosen, n int, of []api.Term) []api.Atom {
	var l []api.Atom
	for range n {
		f := by(one(c, of...), atom(one(c, "p", "p", "p", "q", "P", "", "says")))
		for range one(c, 0, 1, 2, 2, 2, 9) {
			f.Args = append(f.Args, one(c, of...))
		}
		l = append(l, f)
	}
	return l
}

// TestAnswersInOrder: whatever the order of the facts, and how often each stands there.
func TestAnswersInOrder(t *testing.T) {
	l := atoms(p(num(-1)), p(num(5)), p(txt("")), p(txt("5")), p(a), by(ann, p(a)), p(a, b), q(a))
	for o := range orders(l[:6]) {
		o = slices.Concat(o, l, o)
		wantAnswers(t, made(o...), p(v(3)), l[:5]...)
		wantAnswers(t, made(o...), by(v(3), p(v(4))), l[5])
		wantAnswers(t, made(o...), by(ann, p(a)), l[5])
		wantAnswers(t, made(o...), p(a), l[4])
		wantAnswers(t, made(o...), q(v(0)), l[7])
		wantAnswers(t, made(o...), p(v(0), v(1)), l[6])
		wantAnswers(t, made(o...), p(b))
		wantAnswers(t, made(o...), p())
	}
	wantAnswers(t, api.Model{}, p())
	wantAnswers(t, api.Model{}, api.Atom{})
	wantAnswers(t, made(api.Atom{}, api.Atom{}), api.Atom{}, api.Atom{})
}

// TestOneVariableTwice: it stands for one constant wherever it stands, as the qualifier too.
func TestOneVariableTwice(t *testing.T) {
	m := made(p(b, b), p(a, b), p(a, a), p(num(5), txt("5")), by(ann, p(ann, ann)), by(ann, p(a, a)), by(bob, p(a, bob)))
	wantAnswers(t, m, p(v(0), v(0)), p(a, a), p(b, b))
	wantAnswers(t, m, by(v(0), p(v(1), v(1))), by(ann, p(a, a)), by(ann, p(ann, ann)))
	wantAnswers(t, m, by(v(2), p(v(1), v(2))), by(ann, p(ann, ann)), by(bob, p(a, bob)))
	wantAnswers(t, m, by(v(0), p(v(0), v(0))), by(ann, p(ann, ann)))
	wantAnswers(t, m, by(ann, p(v(9), v(9))), by(ann, p(a, a)), by(ann, p(ann, ann)))
	wantAnswers(t, m, p(v(0), v(1)), p(num(5), txt("5")), p(a, a), p(a, b), p(b, b))
}

// TestWhateverElse: nothing but the facts' atoms is looked at.
func TestWhateverElse(t *testing.T) {
	l := atoms(p(b), p(a), q(a), p(b))
	other := made(l...)
	other.Rounds = leastInt
	other.Rules = append(clausesOf(refusals()), rule(p(txt("c"))))
	for i := range other.Facts {
		other.Facts[i].Round = -i
		other.Facts[i].Rule = greatestInt - i
		other.Facts[i].Vals = oddTerms()[i:]
	}
	for _, ask := range atoms(p(v(0)), p(a), q(v(1)), p(txt("c"))) {
		wantAnswers(t, made(l...), ask, plainAnswers(made(l...), ask)...)
		wantAnswers(t, other, ask, plainAnswers(made(l...), ask)...)
	}
	wantAnswers(t, other, p(v(0)), p(a), p(b))
}

// TestAtomsThatAreNotValid: as what is asked, and as what the model has, they match what Match says.
func TestAtomsThatAreNotValid(t *testing.T) {
	odd := oddTerms()
	for _, x := range odd {
		for _, y := range odd {
			m := made(p(x), by(x, q()), p(y), by(y, q()), atom("P", x, y), p(nTimes(9, x)...))
			for _, ask := range atoms(p(x), p(y), by(y, q()), atom("P", y, x), atom("P", v(0), v(0)), p(nTimes(9, y)...)) {
				wantAnswers(t, m, ask, plainAnswers(m, ask)...)
			}
		}
	}
	// A variable stands for whatever is there, a term that only looks like one for itself; the fact's own variables are as good as constants.
	m := made(p(v(3)), p(v(-1)), p(none), p(a))
	wantAnswers(t, m, p(v(0)), p(none), p(a), p(v(-1)), p(v(3)))
	wantAnswers(t, m, p(v(-1)), p(v(-1)))
	wantAnswers(t, m, p(none), p(none))
	wantAnswers(t, made(by(num(5), p()), p(), by(v(2), p())), by(v(0), p()), by(num(5), p()), by(v(2), p()))
}

// TestAnswersByChance: of all kinds of atoms in models made by hand.
func TestAnswersByChance(t *testing.T) {
	for seed := range int64(300) {
		c := newChosen(seed)
		of := terms(none, none, a, b, num(5), v(0), v(1))
		if seed%3 == 0 {
			of = oddTerms()
		}
		m := made(someAtoms(c, c.Intn(40), of)...)
		for _, ask := range slices.Concat(someAtoms(c, 20, of), atoms(p(v(0), v(1)), by(v(0), p(v(1), v(2))), p(v(1), v(1)))) {
			wantAnswers(t, m, ask, plainAnswers(m, ask)...)
		}
	}
}

// TestAnswersOfModels: that Run answers.
func TestAnswersOfModels(t *testing.T) {
	for seed := range int64(60) {
		c := newChosen(seed)
		m := run(t, c.program())
		for range 20 {
			ask := c.atom(terms(none, none, ann, a, v(0), v(1)), terms(a, num(1), v(0), v(1), v(5)))
			wantAnswers(t, m, ask, plainAnswers(m, ask)...)
		}
	}
}
