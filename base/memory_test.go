package base_test

import (
	"slices"
	"sync"
	"testing"

	"hearsay/api"
)

// R3, R4.

// spared: a copy of l with spare room behind it that isn't zero.
func spared(l []api.Term) []api.Term {
	return append(slices.Clone(l), num(71), b, v(3), ann)[:len(l)]
}

// whole: all of a list, its spare room too, in new memory.
func whole(l []api.Term) []api.Term { return slices.Clone(l[:cap(l)]) }

func fill(l []api.Term, mark api.Term) {
	l = l[:cap(l)]
	for i := range l {
		l[i] = mark
	}
}

func holds(l []api.Term, mark api.Term) bool {
	return !slices.ContainsFunc(l[:cap(l)], func(t api.Term) bool { return t != mark })
}

// wantApart: no two of the facts share memory, their arguments' spare room too. All are written over.
func wantApart(t *testing.T, what string, facts []api.Atom) {
	t.Helper()
	for i, f := range facts {
		fill(f.Args, num(i+1000))
	}
	for i, f := range facts {
		if !holds(f.Args, num(i+1000)) {
			t.Errorf("R3: %s: two facts share memory", what)
			return
		}
	}
}

// TestArgumentsStay: as they are, their spare room too; and what becomes of them isn't seen.
func TestArgumentsStay(t *testing.T) {
	x := newBoth(t)
	patterns := product([]string{"p"}, []api.Term{none, ann, v(0), num(5)}, []api.Term{a, b, v(0), none})
	for i, of := range slices.Concat(product([]string{"p", "q"}, []api.Term{none, ann}, []api.Term{b, num(5), a}), patterns) {
		f := of
		f.Args = spared(of.Args)
		before := whole(f.Args)
		x.add(f)
		x.s.Part(f)
		if !slices.Equal(whole(f.Args), before) {
			t.Errorf("R3: Add or Part changed what it was given: %v", of)
		}
		fill(f.Args, a)
		x.part(of)
		x.find(7, of)
		fill(f.Args, num(77))
		if i%10 == 9 {
			x.turn()
			x.look()
		}
	}
	for _, of := range patterns {
		f := of
		f.Args = spared(of.Args)
		before := whole(f.Args)
		want := x.p.find(7, of)
		seq := x.s.Find(7, f)
		wantGiven(t, "spare room", seq, want...)
		wantGiven(t, "spare room, again", seq, want...)
		if !slices.Equal(whole(f.Args), before) {
			t.Errorf("R3: Find changed what it was given: %v", of)
		}
		fill(f.Args, b)
		wantGiven(t, "a pattern written over", seq, want...)
	}
	x.look()
}

// TestAnswersAreNewMemory: every fact's arguments are a list of their own, of two answers too, and none is the base's.
func TestAnswersAreNewMemory(t *testing.T) {
	x := small(t)
	var all []api.Atom
	for parts := range 8 {
		for range 2 {
			all = append(all, x.s.Facts(parts)...)
		}
		for _, pattern := range atoms(p(v(0), v(1)), p(a, v(0)), by(v(0), p(v(1), v(1))), p(a, b), q(v(0)), q()) {
			seq := x.s.Find(parts, pattern)
			for range 2 {
				all = append(all, slices.Collect(seq)...)
			}
		}
	}
	wantApart(t, "Facts and Find", all)
	x.look()
	x.findAll(7, []string{"p", "q"}, []api.Term{none, ann, v(0)}, []api.Term{a, num(5), v(0), v(1)})
	x.turn()
	x.add(product([]string{"p", "q"}, []api.Term{none, ann, bob}, []api.Term{a, c})...)
	x.look()
}

// TestTheListsAreNew: what is put in the place of facts and predicates, and into the lists' spare room, isn't seen.
func TestTheListsAreNew(t *testing.T) {
	x := small(t)
	for range 3 {
		first, second := x.s.Facts(7), x.s.Facts(7)
		l := first[:cap(first)]
		for i := range l {
			l[i] = p(c, c, c)
		}
		if !same(second, x.p.all(7)) {
			t.Errorf("R3: two answers of Facts share memory")
		}
		preds, others := x.s.Preds(), x.s.Preds()
		m := preds[:cap(preds)]
		for i := range m {
			m[i] = pred("z", 9)
		}
		if !slices.Equal(others, x.p.preds()) {
			t.Errorf("R3: two answers of Preds share memory")
		}
		x.look()
		x.turn()
	}
}

// TestFactsWrittenOverInTheBody: the rest of the range, and the base, stay as they are.
func TestFactsWrittenOverInTheBody(t *testing.T) {
	x := small(t)
	for _, pattern := range atoms(p(v(0), v(1)), by(v(0), p(v(1), a)), p(v(0))) {
		want := x.p.find(7, pattern)
		n := 0
		for f := range x.s.Find(7, pattern) {
			if !sameAtom(f, want[n]) {
				t.Errorf("R3: fact %d is %v, want %v", n, f, want[n])
			}
			fill(f.Args, num(99))
			n++
		}
		x.look()
		x.find(7, pattern)
	}
}

// TestAskedAtOneTime: by several, for the first time by the same patterns and by others, and by many that no fact has a constant of; behind new facts too.
func TestAskedAtOneTime(t *testing.T) {
	patterns := atoms(p(v(0), v(1)), p(a, v(0)), p(v(0), a), by(v(0), p(v(1), v(1))), by(ann, p(v(0), b)), p(a, b), q(v(0)), by(v(0), q()), p(c), p(v(0), c))
	for range 10 {
		x := small(t)
		for n := range 3 {
			var wait sync.WaitGroup
			for first := range 8 {
				wait.Go(func() {
					for i := range patterns {
						pattern := patterns[(first/2+i)%len(patterns)]
						x.find(7, pattern)
						x.find(first, pattern)
						x.part(pattern)
					}
					for i := range 200 {
						wantPart(t, x.s, p(num(1000*first+i), txt("nowhere")), 0)
						wantFind(t, x.s, 7, p(num(-1000*first-i-7), v(0)))
					}
					x.look()
				})
			}
			wait.Wait()
			x.turn()
			x.add(p(num(n), c), p(c), q(num(n)), by(bob, p(num(n), num(n))))
		}
	}
}
