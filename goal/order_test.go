package goal_test

import (
	"slices"
	"sync"
	"testing"

	"hearsay/api"
	"hearsay/goal"
)

// P16.5, R4, R5: the order of the clauses, doubles and other calls at the same time are seen nowhere.

// asked: what both calls answer.
type asked struct {
	cs      []api.Clause
	query   api.Atom
	answers []api.Atom
	calls   []api.Call
	errs    [2]api.Errno
}

func ask(cs []api.Clause, x api.Atom) asked {
	out := asked{cs: cs, query: x}
	out.answers, out.errs[0] = goal.Ask(cs, x)
	out.calls, out.errs[1] = goal.Tables(cs, x)
	return out
}

func (x asked) same(y asked) bool {
	return same(x.answers, y.answers) && sameCalls(x.calls, y.calls) && x.errs == y.errs
}

// TestOrderAndDoubles: sets of 0 to 25 clauses, each in many orders.
func TestOrderAndDoubles(t *testing.T) {
	for size := range 26 {
		c := newChosen(int64(size))
		var cs []api.Clause
		for len(cs) < size {
			cs = setOf(append(cs, one(c, c.fact(), c.rule(3, 3))))
		}
		for range 4 {
			x := c.query(cs)
			want := ask(cs, x)
			for range 8 {
				if mixed := c.doubled(cs); !ask(mixed, x).same(want) {
					t.Errorf("P16.5: of %q and %s, in the order %q, another answer than %v", told(cs), toldAtom(x), told(mixed), want)
				}
			}
			backwards := slices.Concat(cs, cs)
			slices.Reverse(backwards)
			if !ask(backwards, x).same(want) {
				t.Errorf("P16.5: of %q, backwards and twice, and %s another answer than %v", told(cs), toldAtom(x), want)
			}
		}
	}
}

// TestOrderOfWhatIsTooGreat: it is refused in every order, by its goals and by its answers.
func TestOrderOfWhatIsTooGreat(t *testing.T) {
	c := newChosen(3)
	for range 6 {
		for _, x := range atoms(p(v(0)), atom("g"), atom("pair", v(0), v(1))) {
			wantErr(t, c.doubled(tooGreat(t)), x, api.ErrCalls)
		}
		wantSize(t, c.doubled(squares(t, 70, 29)), "one", 4, 5000)
		wantErr(t, c.doubled(squares(t, 70, 30)), atom("one"), api.ErrCalls)
	}
}

// TestAtOneTime: asked by several, of the same clauses and of others; and again, whatever was asked between.
func TestAtOneTime(t *testing.T) {
	var want []asked
	for seed := range int64(40) {
		c := newChosen(seed)
		cs := c.clauses()
		want = append(want, ask(cs, c.query(cs)), ask(cs, c.query(cs)))
	}
	paths := program(t, paths)
	want = append(want, ask(nil, p(a)), ask(paths, atom("path", v(1), v(0))), ask(squares(t, 20, 5), atom("two")))
	// Refused by each of the errors.
	want = append(want, ask(clausesOf(refusals()), p(a)), ask(paths, p(none)), ask(numbered("n", 0, 1001), p(a)), ask(tooGreat(t), atom("g")))
	var all sync.WaitGroup
	for first := range 8 {
		all.Go(func() {
			for i := range want {
				x := want[(first/2*7+i)%len(want)]
				if !ask(x.cs, x.query).same(x) {
					t.Errorf("R4: another answer of %q and %s, asked by several", told(x.cs), toldAtom(x.query))
				}
			}
		})
	}
	all.Wait()
}
