package base_test

import (
	"iter"
	"slices"
	"testing"

	"hearsay/api"
	"hearsay/base"
)

// P8.6.

// small: all facts p and q of up to two of a, b, 5, ann, said by nobody, ann and a, a third of them in each part.
func small(t *testing.T) *both {
	t.Helper()
	x := newBoth(t)
	for i, f := range product([]string{"q", "p"}, []api.Term{ann, none, a}, []api.Term{b, ann, num(5), a}) {
		if i == 42 || i == 84 {
			x.turn()
		}
		x.add(f)
	}
	wantLen(t, x.s, 7, 126)
	return x
}

// TestEveryPattern: of constants that facts have and others, of variables alike and different, of none and of terms that are valid nowhere.
func TestEveryPattern(t *testing.T) {
	x := small(t)
	terms := []api.Term{none, a, num(5), txt("5"), c, v(0), v(1), v(greatestInt), v(-1), {Kind: api.KindNum, N: 5, S: "a"}}
	for _, parts := range []int{7, 2, 5} {
		x.findAll(parts, []string{"p", "q", "r", "P", ""}, terms, terms)
	}
}

// TestAFactFindsItself: and nothing else.
func TestAFactFindsItself(t *testing.T) {
	x := small(t)
	for _, f := range x.p.all(7) {
		for parts := range 8 {
			if names(parts, x.p.part(f)) {
				wantFind(t, x.s, parts, f, f)
			} else {
				wantFind(t, x.s, parts, f)
			}
		}
	}
	for _, f := range atoms(p(c), by(bob, p(a)), atom("r"), p(a, c), p(a, b, a), by(ann, q(txt("5")))) {
		wantFind(t, x.s, 7, f)
	}
}

func TestOneVariableTwice(t *testing.T) {
	s := baseOf(t, p(a, a), p(a, b), p(num(5), txt("5")), p(num(5), num(5)), by(ann, p(ann, b)), by(ann, p(b, b)), by(ann, p(ann, ann)), by(bob, p(ann, b)), p(a, b, a), p(a, a, b), p(b, a, a), p(a, a, a))
	wantFind(t, s, 7, p(v(0), v(0)), p(num(5), num(5)), p(a, a))
	wantFind(t, s, 7, p(v(7), v(7)), p(num(5), num(5)), p(a, a))
	wantFind(t, s, 7, p(v(0), v(1)), p(num(5), num(5)), p(num(5), txt("5")), p(a, a), p(a, b))
	wantFind(t, s, 7, by(ann, p(v(0), v(0))), by(ann, p(ann, ann)), by(ann, p(b, b)))
	wantFind(t, s, 7, by(v(0), p(v(0), v(1))), by(ann, p(ann, ann)), by(ann, p(ann, b)))
	wantFind(t, s, 7, by(v(1), p(v(0), v(1))), by(ann, p(ann, ann)))
	wantFind(t, s, 7, by(v(1), p(v(0), v(0))), by(ann, p(ann, ann)), by(ann, p(b, b)))
	wantFind(t, s, 7, by(v(1), p(v(1), v(1))), by(ann, p(ann, ann)))
	wantFind(t, s, 7, by(v(1), p(v(1), b)), by(ann, p(ann, b)))
	wantFind(t, s, 7, by(v(1), p(ann, v(2))), by(ann, p(ann, ann)), by(ann, p(ann, b)), by(bob, p(ann, b)))
	wantFind(t, s, 7, p(v(0), v(1), v(0)), p(a, a, a), p(a, b, a))
	wantFind(t, s, 7, p(v(1), v(0), v(0)), p(a, a, a), p(b, a, a))
	wantFind(t, s, 7, p(v(0), v(0), b), p(a, a, b))
	wantFind(t, s, 7, p(v(0), v(0), v(0)), p(a, a, a))
}

// TestWhoSays: none and a variable as qualifiers stand for different things.
func TestWhoSays(t *testing.T) {
	s := baseOf(t, p(b), p(a), by(bob, p(a)), by(ann, p(b)), by(ann, p(a)), q())
	wantFind(t, s, 7, p(v(0)), p(a), p(b))
	wantFind(t, s, 7, p(a), p(a))
	wantFind(t, s, 7, by(v(1), p(v(0))), by(ann, p(a)), by(ann, p(b)), by(bob, p(a)))
	wantFind(t, s, 7, by(v(1), p(a)), by(ann, p(a)), by(bob, p(a)))
	wantFind(t, s, 7, by(ann, p(v(0))), by(ann, p(a)), by(ann, p(b)))
	wantFind(t, s, 7, by(a, p(v(0))))
	wantFind(t, s, 7, by(v(0), q()))
	wantFind(t, s, 7, by(ann, q()))
	wantFind(t, s, 7, q(), q())
	said := baseOf(t, by(ann, p(a)), by(ann, q()))
	wantFind(t, said, 7, p(v(0)))
	wantFind(t, said, 7, p(a))
	wantFind(t, said, 7, q())
	wantFind(t, said, 7, by(v(3), q()), by(ann, q()))
}

// TestPatternsThatAreNotValid: they match what they match: nothing, where they have something that no fact has.
func TestPatternsThatAreNotValid(t *testing.T) {
	x := small(t)
	for _, f := range noFacts() {
		for _, parts := range []int{7, 1, 0} {
			x.find(parts, f)
		}
	}
	for _, t := range validNowhere() {
		wantFind(x.t, x.s, 7, p(t))
		wantFind(x.t, x.s, 7, p(v(0), t))
		wantFind(x.t, x.s, 7, by(t, p(v(0))))
		wantFind(x.t, x.s, 7, by(t, q()))
	}
	wantFind(t, x.s, 7, p(none))
	wantFind(t, x.s, 7, by(v(0), p(none)))
	wantFind(t, x.s, 7, by(num(5), p(v(0))))
	wantFind(t, x.s, 7, p(nTimes(100000, v(0))...))
	wantFind(t, x.s, 7, p(nTimes(9, v(0))...))
	wantFind(t, x.s, 7, atom("p\x00", v(0)))
	if n := len(slices.Collect(x.s.Find(7, p(v(greatestInt), v(greatestInt-1))))); n != 16 {
		t.Errorf("P8.6: variables of the greatest numbers find %d facts, want 16", n)
	}
}

// TestThePatternChangedBehindTheCall: what becomes of its arguments isn't seen: ahead of the range, in its body, behind it.
func TestThePatternChangedBehindTheCall(t *testing.T) {
	x := small(t)
	for _, pattern := range atoms(p(a, v(0)), p(v(0), v(0)), by(v(0), p(v(1), num(5))), p(c), p(v(0), b)) {
		want := x.p.find(7, pattern)
		given := by(pattern.By, p(slices.Clone(pattern.Args)...))
		seq := x.s.Find(7, given)
		given.Args[0] = b
		wantGiven(t, "a pattern changed ahead of the range", seq, want...)
		n := 0
		for range seq {
			given.Args[len(given.Args)-1] = num(n)
			n++
		}
		if n != len(want) {
			t.Errorf("P8.6: a pattern changed in the body: the range gives %d facts, want %d", n, len(want))
		}
		wantGiven(t, "a pattern changed in the body", seq, want...)
		x.find(7, pattern)
	}
}

// TestWhatThereIsWhenTheRangeBegins: not when Find is called; of predicates and constants too that came between.
func TestWhatThereIsWhenTheRangeBegins(t *testing.T) {
	s := newBase(t)
	next, young, old := s.Find(4, p(v(0), b)), s.Find(2, p(v(0), b)), s.Find(1, p(v(0), b))
	fixed := s.Find(7, p(c, b))
	wantGiven(t, "of no facts", next)
	wantGiven(t, "of no facts", fixed)
	s.Add(p(b, b))
	s.Add(p(a, b))
	s.Add(p(a, a))
	s.Add(by(ann, p(a, b)))
	wantGiven(t, "of the next part", next, p(a, b), p(b, b))
	wantGiven(t, "of the new part", young)
	wantGiven(t, "a constant that isn't there", fixed)
	s.Turn()
	s.Add(p(c, b))
	wantGiven(t, "a constant that is there now", fixed, p(c, b))
	wantGiven(t, "of the next part, behind a turn", next, p(c, b))
	wantGiven(t, "of the new part, behind a turn", young, p(a, b), p(b, b))
	wantGiven(t, "of the old part, behind a turn", old)
	s.Turn()
	wantGiven(t, "of the next part, behind two", next)
	wantGiven(t, "of the new part, behind two", young, p(c, b))
	wantGiven(t, "of the old part, behind two", old, p(a, b), p(b, b))
}

// TestTheBodyChangesTheBase: facts come while the body runs, ahead of where the range is and behind it, of other predicates too, and turns are made.
func TestTheBodyChangesTheBase(t *testing.T) {
	for parts := range 8 {
		for _, pattern := range atoms(p(v(0), v(1)), p(num(0), v(0)), p(v(0), num(0)), by(v(2), p(v(0), v(1))), p(v(0), v(0))) {
			x := newBoth(t)
			for n := range 6 {
				x.add(p(num(0), num(10*n)), p(num(10*n), num(0)), by(ann, p(num(n), num(n))))
				if n%2 == 1 {
					x.turn()
				}
			}
			seq := x.s.Find(parts, pattern)
			for again := range 2 {
				want := x.p.find(parts, pattern)
				var given []api.Atom
				for f := range seq {
					given = append(given, f)
					for _, d := range []int{-1 - again, 1 + again} {
						x.add(by(f.By, p(f.Args[0], num(f.Args[1].N+d))), by(f.By, p(num(f.Args[0].N+d), f.Args[1])), q(f.Args[0]))
					}
					x.add(f)
					x.turn()
					x.find(7, pattern)
				}
				if !same(given, want) {
					t.Errorf("P8.6: Find(%d, %v) gives %v amid changes, want %v", parts, pattern, given, want)
				}
			}
			x.look()
		}
	}
}

// TestRangesInARange: over the same answer, and over others; each begins anew.
func TestRangesInARange(t *testing.T) {
	x := small(t)
	pattern, every := p(v(0), b), by(v(0), q(v(1)))
	seq, all := x.s.Find(7, pattern), x.s.Find(7, every)
	want := x.p.find(7, pattern)
	n := 0
	for f := range seq {
		if !sameAtom(f, want[n]) {
			t.Errorf("P8.6: fact %d is %v, want %v", n, f, want[n])
		}
		wantGiven(t, "in a range over itself", seq, x.p.find(7, pattern)...)
		m := 0
		for range all {
			for range seq {
				m++
				if m%3 == 0 {
					break
				}
			}
		}
		wantGiven(t, "behind ranges over itself", all, x.p.find(7, every)...)
		x.add(p(num(n), b))
		n++
	}
	if n != len(want) {
		t.Errorf("P8.6: the range gives %d facts, want %d", n, len(want))
	}
	x.look()
}

// TestLeftEarly: at each fact; ranged over again it begins at the first.
func TestLeftEarly(t *testing.T) {
	x := small(t)
	for _, pattern := range atoms(p(v(0), v(1)), by(v(0), p(v(1), a)), p(v(0), v(0)), q()) {
		seq, want := x.s.Find(7, pattern), x.p.find(7, pattern)
		for most := range len(want) {
			var given []api.Atom
			for f := range seq {
				given = append(given, f)
				if len(given) > most {
					break
				}
			}
			if !same(given, want[:most+1]) {
				t.Errorf("P8.6: left behind fact %d, the range gave %v; want %v", most, given, want[:most+1])
			}
		}
		wantGiven(t, "ranged over again", seq, want...)
	}
}

// asked: whether there is a fact, by a range that returns out of its body.
func asked(s *base.Base, pattern api.Atom) bool {
	for range s.Find(7, pattern) {
		return true
	}
	return false
}

// TestLeftByReturnAndPanic: the base can be asked and changed behind it.
func TestLeftByReturnAndPanic(t *testing.T) {
	x := small(t)
	if !asked(x.s, p(v(0), b)) || asked(x.s, p(v(0), c)) {
		t.Errorf("P8.6: a range that is left by return")
	}
	func() {
		defer func() { recover() }()
		for range x.s.Find(7, p(v(0))) {
			panic("out of the body")
		}
	}()
	x.add(p(c))
	x.turn()
	x.find(7, p(v(0)))
	x.look()
}

// TestPulled: fact by fact, with changes between; what there is when the first is asked for.
func TestPulled(t *testing.T) {
	x := small(t)
	next, stop := iter.Pull(x.s.Find(7, p(v(0))))
	defer stop()
	x.add(p(c))
	for i, want := range x.p.find(7, p(v(0))) {
		f, ok := next()
		if !ok || !sameAtom(f, want) {
			t.Errorf("P8.6: pulled: fact %d is %v, %v; want %v", i, f, ok, want)
		}
		x.add(p(num(100 + i)))
		x.turn()
		x.find(7, p(v(0)))
	}
	if f, ok := next(); ok {
		t.Errorf("P8.6: pulled: %v behind the last fact", f)
	}
}

// TestByChance: bases of all sorts, held against the plain one at every step.
func TestByChance(t *testing.T) {
	for seed := range int64(200) {
		c, x := newChosen(seed), newBoth(t)
		for range 30 {
			c.change(x)
			for range c.Intn(4) {
				c.ask(x)
			}
		}
		x.look()
	}
}

// TestAmidByChance: the same, with changes and questions in the bodies of ranges, which give what there was when they began.
func TestAmidByChance(t *testing.T) {
	for seed := range int64(100) {
		c, x := newChosen(seed), newBoth(t)
		for range 10 {
			c.change(x)
			parts, pattern := c.Intn(8), c.pattern()
			want := x.p.find(parts, pattern)
			var given []api.Atom
			for f := range x.s.Find(parts, pattern) {
				given = append(given, f)
				c.change(x)
				c.ask(x)
			}
			if !same(given, want) {
				t.Errorf("P8.6: Find(%d, %v) gives %v amid changes, want %v", parts, pattern, given, want)
			}
		}
		x.look()
	}
}
