package upkeep_test

import (
	"slices"
	"sync"
	"testing"

	"hearsay/api"
	"hearsay/syntax"
	"hearsay/upkeep"
)

// P17.7, R4: all hangs on the kept clauses as a set alone.

// looked: what all looks tell.
type looked struct {
	clauses []api.Clause
	facts   []api.Atom
	has     []int
	answers [][]api.Atom
}

// looks: of an upkeep, over these atoms.
func looks(k *upkeep.Kept, asked []api.Atom) looked {
	out := looked{clauses: k.Clauses(), facts: k.Facts()}
	for _, x := range asked {
		out.has = append(out.has, count(k.Has(x)))
		out.answers = append(out.answers, k.Answers(x))
	}
	return out
}

func (x looked) same(y looked) bool {
	return sameClauses(x.clauses, y.clauses) && same(x.facts, y.facts) && slices.Equal(x.has, y.has) && slices.EqualFunc(x.answers, y.answers, same)
}

// asking: atoms that are asked of every upkeep.
func asking() []api.Atom {
	return slices.Concat(oddAtoms()[:6], atoms(p(a), p(v(0)), q(num(1)), q(v(3)), atom("e", v(0), v(0)), atom("e", v(1), v(0)), atom("e", a, v(0)), atom("r"), by(v(0), p(v(1))), by(v(0), atom("e", v(0), v(1))), by(ann, q(v(0))), by(ann, atom("r"))))
}

// roundabout: an upkeep of these clauses that came in another order, with others that came and went, some that came and went several times, looks and refused calls between.
func (c *chosen) roundabout(t *testing.T, cs, others []api.Clause) *upkeep.Kept {
	t.Helper()
	k := upkeep.New()
	all := c.mixed(slices.Concat(cs, cs, others))
	for i, x := range all {
		k.Add(x)
		switch c.Intn(6) {
		case 0:
			looks(k, asking())
		case 1:
			k.Add(one(c, refusals()...).c)
			k.Remove(one(c, refusals()...).c)
		case 2:
			k.Remove(all[c.Intn(i+1)])
		case 3:
			k.Remove(one(c, all...)) // often one that isn't kept
		}
	}
	for _, x := range c.mixed(slices.Concat(cs, others)) {
		if hasClause(cs, x) {
			k.Add(x)
		} else {
			k.Remove(x)
		}
	}
	return k
}

// TestTheSetAlone: upkeeps that come to the same clauses by different ways tell the same, and the same changes from then on.
func TestTheSetAlone(t *testing.T) {
	changed := 0
	for seed := range int64(120) {
		c := newChosen(seed)
		pool := c.pool(3+c.Intn(7), 4+c.Intn(10))
		cs, others := pool[:len(pool)*2/3], pool[len(pool)*2/3:]
		straight := keptOf(t, cs)
		ways := []*upkeep.Kept{straight, keptOf(t, setOf(cs)), keptOf(t, c.mixed(cs)), c.roundabout(t, cs, others), c.roundabout(t, cs, others)}
		for range 15 {
			want := looks(straight, asking())
			for i, k := range ways {
				if !looks(k, asking()).same(want) {
					t.Errorf("P17.7: of %q, come to by the way %d: other looks", told(cs), i)
				}
			}
			x, goes := one(c, pool...), c.Intn(2) == 0
			wantChange, wantErr := call(straight, x, goes)
			for i, k := range ways[1:] {
				if change, err := call(k, x, goes); err != wantErr || !sameChange(change, wantChange) {
					t.Errorf("P17.7: of %q, come to by the way %d: %s (going: %t) is %v, %d, want %v, %d", told(want.clauses), i, syntax.Print(x), goes, change, err, wantChange, wantErr)
				}
			}
			changed += count(!noChange(wantChange))
		}
	}
	if changed < 400 {
		t.Errorf("too much alike: just %d changes", changed)
	}
}

// call: Remove, if the clause is to go; else Add.
func call(k *upkeep.Kept, c api.Clause, goes bool) (api.Change, api.Errno) {
	if goes {
		return k.Remove(c)
	}
	return k.Add(c)
}

// TestThereAndBack: Add and Remove of a clause, one behind the other, change nothing; nor do Remove and Add.
func TestThereAndBack(t *testing.T) {
	moved := 0
	for seed := range int64(80) {
		c := newChosen(seed)
		pool := c.pool(3+c.Intn(7), 4+c.Intn(10))
		w := watch(t)
		for _, x := range pool[:len(pool)/2] {
			w.addClause(x)
		}
		for _, x := range pool {
			before := looks(w.k, asking())
			var first, second api.Change
			if hasClause(w.clauses, x) {
				first, second = w.removeClause(x), w.addClause(x)
				first.Came, second.Came = second.Came, first.Came
			} else {
				first, second = w.addClause(x), w.removeClause(x)
				first.Gone, second.Gone = second.Gone, first.Gone
			}
			if !same(first.Came, first.Gone) || !noChange(second) {
				t.Errorf("P17.7: of %q, there and back by %s: %v", told(w.clauses), syntax.Print(x), first)
			}
			if !looks(w.k, asking()).same(before) {
				t.Errorf("P17.7: of %q, there and back by %s: other looks", told(w.clauses), syntax.Print(x))
			}
			moved += len(first.Came)
		}
	}
	if moved < 500 {
		t.Errorf("too much alike: just %d facts came and went", moved)
	}
}

// TestRefusedByTheLimits: an upkeep that was refused is as one that wasn't asked.
func TestRefusedByTheLimits(t *testing.T) {
	rules := program(t, "quad(A, B, C, D) :- d(A), d(B), d(C), d(D). one(A) :- quad(A, B, C, D). d(X) :- also(X).")
	tried, other := keptOf(t, slices.Concat(rules, numbered("d", 0, 8))), keptOf(t, slices.Concat(numbered("d", 0, 8), rules))
	for _, text := range texts("d(8).", "also(8).", "quint(A, B, C, D, E) :- quad(A, B, C, D), d(E).", "d(-1).") {
		wantRefused(t, tried, clauseOf(t, text), api.ErrFacts)
	}
	for _, text := range texts("d(3).", "also(5).", "d(5).", "quad(A, B, C, D) :- d(A), d(B), d(C), d(D).", "d(3).") {
		x := clauseOf(t, text)
		goes := hasClause(other.Clauses(), x)
		want, wantErr := call(other, x, goes)
		if got, err := call(tried, x, goes); err != wantErr || !sameChange(got, want) {
			t.Errorf("P17.7: behind refused calls %s is another change: %d came, %d gone, %d, want %d, %d, %d", text, len(got.Came), len(got.Gone), err, len(want.Came), len(want.Gone), wantErr)
		}
		if !looks(tried, atoms(atom("d", v(0)), atom("quad", num(1), v(0), v(0), v(1)))).same(looks(other, atoms(atom("d", v(0)), atom("quad", num(1), v(0), v(0), v(1))))) {
			t.Errorf("P17.7: behind refused calls and %s: other looks", text)
		}
	}
}

// TestSideBySide: several upkeeps, in turns, each as if it were alone.
func TestSideBySide(t *testing.T) {
	const many, steps = 6, 60
	scripts, pools := make([]*chosen, many), make([][]api.Clause, many)
	upkeeps := make([]*watched, many)
	for i := range many {
		scripts[i] = newChosen(int64(i / 2)) // two of each script, the second a step behind
		pools[i] = scripts[i].pool(8, 12)
		upkeeps[i] = watch(t)
	}
	told := make([][]api.Change, many)
	for n := range steps {
		for i := range many {
			if i%2 == 0 || n > 0 {
				told[i] = append(told[i], upkeeps[i].step(scripts[i], pools[i]))
			}
		}
		for _, w := range upkeeps {
			w.look(api.Change{})
		}
	}
	for i := 0; i < many; i += 2 {
		if !slices.EqualFunc(told[i][:steps-1], told[i+1], sameChange) {
			t.Errorf("R4: two upkeeps with one script have other changes")
		}
	}
}

// TestAtOneTime: looks from several goroutines, and several upkeeps at one time.
func TestAtOneTime(t *testing.T) {
	c := newChosen(7)
	shared := keptOf(t, slices.Concat(program(t, graphRules), numbered("n", 0, 40), program(t, "edge(1, 2). edge(2, 3). edge(3, 1). edge(X, X) :- n(X), X < 9."), c.pool(9, 9)))
	asked := append(asking(), atom("path", v(0), v(1)), atom("path", v(0), v(0)), atom("n", v(2)), by(v(0), atom("path", num(1), v(1))))
	want := looks(shared, asked)
	var all sync.WaitGroup
	for seed := range int64(8) {
		all.Go(func() {
			own := watch(t)
			script := newChosen(seed)
			pool := script.pool(6, 8)
			for range 20 {
				if !looks(shared, asked).same(want) {
					t.Error("R4: other looks, asked by several")
				}
				own.step(script, pool)
			}
		})
	}
	all.Wait()
	if !looks(shared, asked).same(want) {
		t.Error("R4: other looks behind the calls of others")
	}
}
