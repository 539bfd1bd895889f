package base_test

import (
	"iter"
	"slices"
	"strings"
	"testing"

	"hearsay/api"
	"hearsay/base"
)

const (
	leastInt    = -1 << 63
	greatestInt = 1<<63 - 1
)

var (
	none = api.Term{}
	a    = txt("a")
	b    = txt("b")
	c    = txt("c")
	ann  = txt("ann")
	bob  = txt("bob")
)

func num(n int) api.Term    { return api.Term{Kind: api.KindNum, N: n} }
func txt(s string) api.Term { return api.Term{Kind: api.KindText, S: s} }
func v(n int) api.Term      { return api.Term{Kind: api.KindVar, N: n} }

func long(n int) string { return strings.Repeat("a", n) }

func nTimes[T any](n int, x T) []T { return slices.Repeat([]T{x}, n) }

func atom(name string, args ...api.Term) api.Atom { return api.Atom{Name: name, Args: args} }

func p(args ...api.Term) api.Atom { return atom("p", args...) }

func q(args ...api.Term) api.Atom { return atom("q", args...) }

// by: the same atom, said by someone.
func by(who api.Term, of api.Atom) api.Atom {
	of.By = who
	return of
}

func atoms(l ...api.Atom) []api.Atom { return l }

func pred(name string, arity int) api.Pred { return api.Pred{Name: name, Arity: arity} }

// validNowhere: terms that are neither constants nor variables nor none.
func validNowhere() []api.Term {
	return []api.Term{
		{Kind: api.KindNone, N: 1}, {Kind: api.KindNone, S: "a"}, {Kind: api.KindNum, N: 5, S: "a"}, {Kind: api.KindText, N: 1, S: "a"}, {Kind: api.KindText, N: -1}, txt(long(65)),
		v(-1), v(leastInt), {Kind: api.KindVar, N: 1, S: "a"}, {Kind: 4, S: "a"}, {Kind: -1}, {Kind: greatestInt, N: leastInt, S: "a"}, {Kind: leastInt},
	}
}

// noFacts: one for each reason, or several, for which an atom is no fact.
func noFacts() []api.Atom {
	l := atoms(
		api.Atom{}, atom(""), atom("P", a), atom("says", a), atom("1p"), atom("_p"), atom("p q"), atom("p\x00", a), atom(long(33), a), by(ann, atom("Q")), p(nTimes(9, a)...), p(nTimes(1000, a)...),
		p(v(0)), p(a, v(3)), p(v(0), a), by(ann, p(v(0))), p(append(nTimes(7, a), v(greatestInt))...),
		by(num(5), p(a)), by(num(0), q()), by(txt(""), p(a)), by(v(0), p(a)), by(v(0), p(v(0))), by(v(7), q()),
		p(none), p(a, none), by(ann, p(none)), by(none, p(none, none)),
	)
	for _, t := range validNowhere() {
		l = append(l, p(t), p(a, t), by(t, p(a)), by(t, q()), by(t, p(t)))
	}
	return l
}

func sameAtom(x, y api.Atom) bool {
	return x.Name == y.Name && x.By == y.By && slices.Equal(x.Args, y.Args)
}

// same: atom by atom, nil and empty lists being one.
func same(x, y []api.Atom) bool { return slices.EqualFunc(x, y, sameAtom) }

func newBase(t *testing.T) *base.Base {
	t.Helper()
	s := base.New()
	if s == nil {
		t.Fatalf("P8.1: New() is nil")
	}
	return s
}

// baseOf: a base whose next part has just these facts.
func baseOf(t *testing.T, l ...api.Atom) *base.Base {
	t.Helper()
	s := newBase(t)
	for _, f := range l {
		wantAdd(t, s, f, true)
	}
	return s
}

func wantAdd(t *testing.T, s *base.Base, f api.Atom, want bool) {
	t.Helper()
	if came, err := s.Add(f); came != want || err != api.OK {
		t.Errorf("P8.2: Add(%v) is %v, %d; want %v, OK", f, came, err, want)
	}
}

func wantNoFact(t *testing.T, s *base.Base, f api.Atom) {
	t.Helper()
	if came, err := s.Add(f); came || err != api.ErrFact {
		t.Errorf("P8.2: Add(%v) is %v, %d; want false, ErrFact", f, came, err)
	}
}

func wantTurn(t *testing.T, s *base.Base, want int) {
	t.Helper()
	if n := s.Turn(); n != want {
		t.Errorf("P8.3: Turn() is %d, want %d", n, want)
	}
}

func wantPart(t *testing.T, s *base.Base, f api.Atom, want int) {
	t.Helper()
	if part := s.Part(f); part != want {
		t.Errorf("P8.4: Part(%v) is %d, want %d", f, part, want)
	}
}

func wantLen(t *testing.T, s *base.Base, parts, want int) {
	t.Helper()
	if n := s.Len(parts); n != want {
		t.Errorf("P8.4: Len(%d) is %d, want %d", parts, n, want)
	}
}

func wantFacts(t *testing.T, s *base.Base, parts int, want ...api.Atom) {
	t.Helper()
	if l := s.Facts(parts); !same(l, want) {
		t.Errorf("P8.5: Facts(%d) is %v, want %v", parts, l, want)
	}
}

func wantPreds(t *testing.T, s *base.Base, want ...api.Pred) {
	t.Helper()
	if l := s.Preds(); !slices.Equal(l, want) {
		t.Errorf("P8.5: Preds() is %v, want %v", l, want)
	}
}

func wantFind(t *testing.T, s *base.Base, parts int, pattern api.Atom, want ...api.Atom) {
	t.Helper()
	if l := slices.Collect(s.Find(parts, pattern)); !same(l, want) {
		t.Errorf("P8.6: Find(%d, %v) gives %v, want %v", parts, pattern, l, want)
	}
}

func wantGiven(t *testing.T, what string, seq iter.Seq[api.Atom], want ...api.Atom) {
	t.Helper()
	if l := slices.Collect(seq); !same(l, want) {
		t.Errorf("P8.6: %s: it gives %v, want %v", what, l, want)
	}
}
