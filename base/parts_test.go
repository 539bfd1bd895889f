package base_test

import (
	"reflect"
	"slices"
	"testing"

	"hearsay/api"
	"hearsay/base"
)

// P8.1 to P8.5.

func TestNewHasNoFacts(t *testing.T) {
	s := newBase(t)
	for range 3 {
		for _, parts := range oddParts() {
			wantLen(t, s, parts, 0)
			wantFacts(t, s, parts)
			for _, pattern := range atoms(p(v(0)), by(v(1), p(v(0))), p(a), q(), api.Atom{}, p(none)) {
				wantFind(t, s, parts, pattern)
			}
		}
		wantPreds(t, s)
		wantPart(t, s, p(a), 0)
		wantPart(t, s, api.Atom{}, 0)
		wantTurn(t, s, 0)
	}
}

// TestTheFace: a base has these calls, and nothing of what it is built of.
func TestTheFace(t *testing.T) {
	face := reflect.TypeFor[*base.Base]()
	var calls []string
	for i := range face.NumMethod() {
		calls = append(calls, face.Method(i).Name)
	}
	if want := []string{"Add", "Facts", "Find", "Len", "Part", "Preds", "Turn"}; !slices.Equal(calls, want) {
		t.Errorf("the calls of a base are %s, want %s", calls, want)
	}
	for i := range face.Elem().NumField() {
		if f := face.Elem().Field(i); f.IsExported() {
			t.Errorf("the field %s of a base is seen", f.Name)
		}
	}
}

// TestTwoBases: what is done to one isn't seen in the other, even where they have facts, constants and predicates in common.
func TestTwoBases(t *testing.T) {
	x, y, empty := newBoth(t), newBoth(t), newBoth(t)
	x.add(p(a), p(b), by(ann, p(a)), q())
	y.add(p(b), q(a, b))
	for range 3 {
		x.turn()
		y.add(p(c), p(a), q(b, c))
		for _, z := range []*both{x, y, empty} {
			z.look()
			z.findAll(7, []string{"p", "q"}, []api.Term{none, ann, v(0)}, []api.Term{a, c, v(0), v(1)})
		}
		x.add(p(num(1)), q())
	}
	wantPart(t, x.s, p(b), 1)
	wantPart(t, y.s, p(b), 4)
	wantPart(t, empty.s, p(b), 0)
	wantLen(t, empty.s, 7, 0)
}

// TestWhatIsNoFact: it is refused, and changes nothing, whatever the base has.
func TestWhatIsNoFact(t *testing.T) {
	empty, x := newBase(t), newBoth(t)
	x.add(p(a), by(txt("5"), p(num(5))), q())
	x.turn()
	x.add(p(b), p(a, a), by(ann, q()), p(num(5)))
	x.turn()
	x.add(p(c), by(a, p(b, c)), p(nTimes(8, a)...))
	for _, f := range noFacts() {
		for _, s := range []*base.Base{empty, x.s} {
			wantPart(t, s, f, 0)
			wantNoFact(t, s, f)
			wantNoFact(t, s, f)
			wantPart(t, s, f, 0)
		}
		wantPreds(t, empty)
		wantLen(t, empty, 7, 0)
		x.look()
		x.find(7, f)
	}
	wantTurn(t, empty, 0)
	wantFacts(t, empty, 7)
	x.turn()
	x.look()
}

// TestTheEdgesOfFacts: the longest names and texts, the empty text, the least and the greatest number, no arguments and the most.
func TestTheEdgesOfFacts(t *testing.T) {
	x := newBoth(t)
	edges := atoms(atom(long(32)), atom(long(32), txt(long(64))), atom("pAZaz09_", a), atom("say"), atom("sayss", a),
		p(txt("")), p(num(leastInt)), p(num(greatestInt)), p(num(0)), p(txt("\x00")), p(txt("\xff\xfe")), p(txt("V0")), p(txt("_")),
		by(txt(long(64)), p(a)), by(txt("\x00"), p(a)), by(txt(" "), q()), by(txt("V0"), q()),
		p(), q(), by(ann, p()), p(nTimes(8, a)...), by(ann, p(nTimes(8, a)...)), p(append(nTimes(7, a), b)...), p(append([]api.Term{b}, nTimes(7, a)...)...), p(nTimes(7, a)...))
	for _, f := range edges {
		wantPart(t, x.s, f, 0)
		wantFind(t, x.s, 7, f)
		x.add(f)
		wantAdd(t, x.s, f, false)
		x.look()
		wantFind(t, x.s, 7, f, f)
	}
	wantLen(t, x.s, 4, len(edges))
	x.turn()
	x.look()
	x.find(7, p(v(0), v(1), v(2), v(3), v(4), v(5), v(6), v(7)))
	x.find(7, p(v(0), v(0), v(0), v(0), v(0), v(0), v(0), v(1)))
	x.find(7, by(v(9), p(a, v(0), v(0), v(0), v(0), v(0), v(0), v(0))))
	x.find(7, p(nTimes(9, v(0))...))
	x.find(7, p(v(0)))
}

// TestAlikeButForTheKind: a number, a text of its digits, a name and a text of its letters are all different, and so are facts of them.
func TestAlikeButForTheKind(t *testing.T) {
	x := newBoth(t)
	alike := []api.Term{num(5), txt("5"), num(-5), txt("-5"), num(0), txt("0"), txt(""), txt("p"), txt("P"), txt("p "), txt("none"), txt("V0")}
	for _, t := range alike {
		x.add(p(t))
		x.add(p(t, t))
		x.look()
	}
	wantLen(t, x.s, 4, 2*len(alike))
	x.turn()
	for _, t := range alike {
		wantFind(x.t, x.s, 7, p(t), p(t))
		wantFind(x.t, x.s, 7, p(t, v(0)), p(t, t))
		wantFind(x.t, x.s, 7, p(v(0), t), p(t, t))
		for _, u := range alike {
			x.part(p(t, u))
			x.find(7, p(t, u))
			x.part(by(t, p(u)))
			x.find(7, by(t, p(u)))
		}
	}
	wantFacts(t, x.s, 2, p(num(-5)), p(num(0)), p(num(5)), p(txt("")), p(txt("-5")), p(txt("0")), p(txt("5")), p(txt("P")), p(txt("V0")), p(txt("none")), p(txt("p")), p(txt("p ")),
		p(num(-5), num(-5)), p(num(0), num(0)), p(num(5), num(5)), p(txt(""), txt("")), p(txt("-5"), txt("-5")), p(txt("0"), txt("0")), p(txt("5"), txt("5")), p(txt("P"), txt("P")), p(txt("V0"), txt("V0")), p(txt("none"), txt("none")), p(txt("p"), txt("p")), p(txt("p "), txt("p ")))
}

// TestAlikeButForOneThing: facts that differ in the qualifier, the name or the number of arguments alone.
func TestAlikeButForOneThing(t *testing.T) {
	l := atoms(p(a), by(ann, p(a)), by(bob, p(a)), by(a, p(a)), q(a), atom("pp", a), atom("p1", a), atom("a", a), p(), p(a, a), p(a, a, a), by(ann, p()), by(ann, p(a, a)), p(ann), p(ann, a), by(ann, q(a)), p(b), by(txt("p"), p(a)), p(txt("p"), a))
	for i, f := range l {
		s := baseOf(t, f)
		for k, g := range l {
			if part := s.Part(g); (part == 4) != (i == k) {
				t.Errorf("P8.4: with %v alone, Part(%v) is %d", f, g, part)
			}
			if n := len(slices.Collect(s.Find(7, g))); (n == 1) != (i == k) {
				t.Errorf("P8.6: with %v alone, Find of %v gives %d facts", f, g, n)
			}
		}
	}
	s := baseOf(t, l...)
	wantTurn(t, s, len(l))
	for _, f := range l {
		wantPart(t, s, f, 2)
		wantFind(t, s, 7, f, f)
		wantAdd(t, s, f, false)
	}
}

// TestWhereAFactIs: added again in each part, it stays there; another one is in none.
func TestWhereAFactIs(t *testing.T) {
	for _, f := range atoms(q(), p(a, num(5)), by(ann, p(a, num(5)))) {
		s := baseOf(t, f)
		for _, part := range []int{api.PartNext, api.PartNew, api.PartOld, api.PartOld} {
			for range 2 {
				wantPart(t, s, f, part)
				wantAdd(t, s, f, false)
				wantLen(t, s, 7, 1)
				wantLen(t, s, part, 1)
				wantLen(t, s, 7-part, 0)
				wantFacts(t, s, part, f)
				wantFacts(t, s, 7-part)
				wantFind(t, s, part, f, f)
				wantFind(t, s, 7-part, f)
				wantPreds(t, s, pred(f.Name, len(f.Args)))
			}
			for _, other := range append(noFacts(), p(), p(num(5), a), p(a, a), by(a, p(a, num(5))), by(bob, p(a, num(5))), p(a), p(a, num(5), a), q(a), by(ann, q()), p(c, c)) {
				wantPart(t, s, other, 0)
			}
			s.Turn()
		}
	}
}

// TestParts: facts of several predicates in all three parts, asked for by every number.
func TestParts(t *testing.T) {
	x := newBoth(t)
	x.add(p(b), q(), by(ann, p(a)))
	x.turn()
	x.add(p(a), q(a))
	x.turn()
	x.add(p(c))
	x.look()
	old, young, next := atoms(p(b), by(ann, p(a)), q()), atoms(p(a), q(a)), atoms(p(c))
	all := atoms(p(a), p(b), p(c), by(ann, p(a)), q(), q(a))
	for _, of := range []struct {
		parts int
		want  []api.Atom
	}{
		{0, nil}, {1, old}, {2, young}, {3, atoms(p(a), p(b), by(ann, p(a)), q(), q(a))}, {4, next}, {5, atoms(p(b), p(c), by(ann, p(a)), q())}, {6, atoms(p(a), p(c), q(a))}, {7, all},
		{8, nil}, {9, old}, {10, young}, {11, atoms(p(a), p(b), by(ann, p(a)), q(), q(a))}, {12, next}, {15, all}, {16, nil}, {-1, all}, {-8, nil}, {-7, old}, {-6, young}, {-4, next}, {leastInt, nil}, {leastInt + 2, young}, {greatestInt, all}, {greatestInt - 3, next}, {greatestInt - 7, nil},
	} {
		wantLen(t, x.s, of.parts, len(of.want))
		wantFacts(t, x.s, of.parts, of.want...)
		for _, pattern := range atoms(p(v(0)), by(v(1), p(v(0))), q(v(0)), q(), p(c), by(ann, p(v(3)))) {
			var want []api.Atom
			for _, f := range of.want {
				if matches(pattern, f) {
					want = append(want, f)
				}
			}
			wantFind(t, x.s, of.parts, pattern, want...)
		}
	}
	wantPreds(t, x.s, pred("p", 1), pred("q", 0), pred("q", 1))
}

// TestTurns: of an empty base, of facts of several predicates, several in a row.
func TestTurns(t *testing.T) {
	x := newBoth(t)
	for range 3 {
		wantTurn(t, x.s, 0)
	}
	for n, many := range []int{1, 0, 3, 0, 0, 2, 5, 1, 0} {
		for i := range many {
			f := []api.Atom{p(num(n), num(i)), q(num(10*n + i)), by(ann, q(num(10*n+i))), atom("r", a, a, num(10*n+i))}[i%4]
			x.add(f, f, p(num(0), num(0)))
		}
		wantTurn(t, x.s, many)
		x.p.turn()
		x.look()
	}
}

// TestAPredicateThatComesLater: its facts go through the parts as those of predicates that were there ahead of earlier turns.
func TestAPredicateThatComesLater(t *testing.T) {
	x := newBoth(t)
	x.add(p(a))
	for _, f := range atoms(q(), q(a), atom("r", a), p(a, b), by(ann, p(a, b, c)), p()) {
		x.turn()
		x.turn()
		x.add(f)
		x.look()
		x.turn()
		x.add(f)
		x.look()
	}
	wantFacts(t, x.s, 2, p())
}

// orders: all orders of a list.
func orders[T any](l []T) [][]T {
	if len(l) == 0 {
		return [][]T{nil}
	}
	var out [][]T
	for i := range l {
		for _, rest := range orders(slices.Concat(l[:i], l[i+1:])) {
			out = append(out, append([]T{l[i]}, rest...))
		}
	}
	return out
}

// TestInOrder: by name as bytes, fewer arguments ahead, none ahead of principals, numbers by value ahead of texts by bytes; whatever the order of coming.
func TestInOrder(t *testing.T) {
	for _, l := range [][]api.Atom{
		{p(num(2)), p(num(10)), p(txt("10")), p(txt("2")), p(txt("B")), p(txt("a"))},
		{p(b), by(ann, p(a)), by(bob, p(num(1))), p(num(1), num(1)), atom("pA"), atom("p_", a)},
		{p(num(1), b), p(num(2), a), p(a, num(2)), p(a, a), p(txt("aa"), num(1)), p(b, num(1))},
		{atom("b", a), atom("p9"), atom("pA"), atom("p_"), atom("pa"), q()},
		{p(), by(txt("A"), p()), by(ann, p()), by(txt("ann "), p()), p(num(leastInt)), p(num(greatestInt))},
	} {
		var preds []api.Pred
		for _, f := range l {
			preds = append(preds, pred(f.Name, len(f.Args)))
		}
		preds = slices.Compact(preds)
		for _, order := range orders(l) {
			s := baseOf(t, order[:2]...)
			s.Turn()
			for _, f := range order[2:] {
				wantAdd(t, s, f, true)
			}
			wantFacts(t, s, 7, l...)
			wantPreds(t, s, preds...)
		}
	}
}

// TestPredsOfAnyPart: those of facts that are in the next part alone too; each once, said by someone or not.
func TestPredsOfAnyPart(t *testing.T) {
	s := baseOf(t, q(b))
	wantPreds(t, s, pred("q", 1))
	s.Turn()
	wantPreds(t, s, pred("q", 1))
	wantAdd(t, s, by(ann, p(a, b)), true)
	wantAdd(t, s, by(bob, q(b)), true)
	wantPreds(t, s, pred("p", 2), pred("q", 1))
	s.Turn()
	wantAdd(t, s, p(a, b), true)
	wantAdd(t, s, p(), true)
	wantPreds(t, s, pred("p", 0), pred("p", 2), pred("q", 1))
	s.Turn()
	s.Turn()
	wantPreds(t, s, pred("p", 0), pred("p", 2), pred("q", 1))
}
