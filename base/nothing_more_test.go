package base_test

import (
	"slices"
	"testing"

	"hearsay/api"
	"hearsay/base"
)

// P8.7.

// wantAlike: two bases to which the same sets were added ahead of each turn answer the same to all that is asked.
func wantAlike(t *testing.T, what string, x, y *base.Base) {
	t.Helper()
	for _, parts := range oddParts() {
		if n, m := x.Len(parts), y.Len(parts); n != m {
			t.Errorf("P8.7: %s: Len(%d) is %d and %d", what, parts, n, m)
		}
		if l, m := x.Facts(parts), y.Facts(parts); !same(l, m) {
			t.Errorf("P8.7: %s: Facts(%d) is %v and %v", what, parts, l, m)
		}
	}
	if l, m := x.Preds(), y.Preds(); !slices.Equal(l, m) {
		t.Errorf("P8.7: %s: Preds() is %v and %v", what, l, m)
	}
	for _, f := range product([]string{"p", "q"}, []api.Term{none, ann, a, v(0), num(5)}, []api.Term{a, b, ann, num(5), txt("5"), v(0), v(1), none}) {
		if n, m := x.Part(f), y.Part(f); n != m {
			t.Errorf("P8.7: %s: Part(%v) is %d and %d", what, f, n, m)
		}
		for _, parts := range []int{1, 2, 4, 7} {
			if l, m := slices.Collect(x.Find(parts, f)), slices.Collect(y.Find(parts, f)); !same(l, m) {
				t.Errorf("P8.7: %s: Find(%d, %v) gives %v and %v", what, parts, f, l, m)
			}
		}
	}
}

// someSets: what is added ahead of each turn; facts of earlier sets among later ones.
func someSets(c *chosen) [][]api.Atom {
	sets := make([][]api.Atom, 4)
	for i := range sets {
		for range c.Intn(12) {
			sets[i] = append(sets[i], c.fact())
		}
	}
	return sets
}

// played: a base to which the sets were added, a turn behind each but the last; around each Add, meanwhile may do what must not be seen.
func played(t *testing.T, sets [][]api.Atom, meanwhile func(s *base.Base, f api.Atom)) *base.Base {
	s := newBase(t)
	for i, set := range sets {
		if i > 0 {
			s.Turn()
		}
		for _, f := range set {
			meanwhile(s, f)
			s.Add(f)
			meanwhile(s, f)
		}
	}
	return s
}

func nothing(*base.Base, api.Atom) {}

func TestTheOrderIsNotSeen(t *testing.T) {
	for seed := range int64(30) {
		c := newChosen(seed)
		sets := someSets(c)
		first := played(t, sets, nothing)
		for range 3 {
			for _, set := range sets {
				c.Shuffle(len(set), func(i, k int) { set[i], set[k] = set[k], set[i] })
			}
			wantAlike(t, "another order", first, played(t, sets, nothing))
		}
	}
}

func TestHowOftenIsNotSeen(t *testing.T) {
	for seed := range int64(30) {
		c := newChosen(seed)
		sets := someSets(c)
		first := played(t, sets, nothing)
		wantAlike(t, "added twice", first, played(t, sets, func(s *base.Base, f api.Atom) { s.Add(f) }))
		for i := range sets {
			for _, earlier := range sets[:i] {
				sets[i] = append(sets[i], earlier...)
			}
		}
		wantAlike(t, "added again behind turns", first, played(t, sets, nothing))
	}
}

// TestLooksAreNotSeen: by patterns and facts with constants and predicates that the base hasn't, or hasn't yet.
func TestLooksAreNotSeen(t *testing.T) {
	for seed := range int64(30) {
		c := newChosen(seed)
		sets := someSets(c)
		first := played(t, sets, nothing)
		wantAlike(t, "looked at", first, played(t, sets, func(s *base.Base, f api.Atom) {
			s.Part(f)
			s.Facts(7)
			s.Preds()
			s.Len(3)
			for range s.Find(7, f) {
			}
			for _, g := range atoms(p(unheardOf()), by(unheardOf(), f), c.pattern(), c.fact(), atom("zz", a), api.Atom{}) {
				s.Part(g)
				for range s.Find(7, g) {
				}
				for range s.Find(7, g) {
					break
				}
				s.Find(7, g)
			}
		}))
	}
}

// unheardOf: a constant that no fact here has.
func unheardOf() api.Term { return txt("nowhere else") }

func TestRefusedCallsAreNotSeen(t *testing.T) {
	for seed := range int64(30) {
		c := newChosen(seed)
		sets := someSets(c)
		first := played(t, sets, nothing)
		bad := noFacts()
		wantAlike(t, "refused", first, played(t, sets, func(s *base.Base, f api.Atom) {
			for range 5 {
				wantNoFact(t, s, one(c, bad...))
			}
			wantNoFact(t, s, by(num(5), f))
			wantNoFact(t, s, by(v(0), f))
		}))
	}
}

// TestAnswersWrittenOver: what the caller does with an answer isn't seen in later ones.
func TestAnswersWrittenOver(t *testing.T) {
	for seed := range int64(20) {
		c := newChosen(seed)
		sets := someSets(c)
		first := played(t, sets, nothing)
		wantAlike(t, "answers written over", first, played(t, sets, func(s *base.Base, f api.Atom) {
			l := s.Facts(7)
			for _, g := range l {
				fill(g.Args, num(77))
			}
			clear(l[:cap(l)])
			preds := s.Preds()
			clear(preds[:cap(preds)])
			for g := range s.Find(7, f) {
				fill(g.Args, num(77))
			}
		}))
	}
}

// TestATurnIsSeen: it is what parts the sets.
func TestATurnIsSeen(t *testing.T) {
	once, twice := baseOf(t, p(a), p(b)), baseOf(t, p(a))
	twice.Turn()
	wantAdd(t, twice, p(b), true)
	once.Turn()
	once.Turn()
	twice.Turn()
	wantFacts(t, once, 1, p(a), p(b))
	wantFacts(t, twice, 1, p(a))
	wantFacts(t, twice, 2, p(b))
}
