package why_test

import (
	"runtime"
	"slices"
	"strings"
	"sync"
	"testing"
	"time"

	"hearsay/api"
	"hearsay/why"
)

// P13.7, R4, R5: the order of the clauses, doubles and the schedule of goroutines are seen nowhere.

// answers: of all four calls about one fact and one name.
type answers struct {
	support, needed, left []api.Clause
	lost                  []api.Atom
	errs                  [3]api.Errno
}

func answersOf(cs []api.Clause, f api.Atom, u string) answers {
	var x answers
	x.support, x.errs[0] = why.Support(cs, f)
	x.needed, x.errs[1] = why.Needed(cs, f)
	x.lost, x.errs[2] = why.Loss(cs, u)
	x.left = why.Without(cs, u)
	return x
}

func (x answers) same(y answers) bool {
	return sameClauses(x.support, y.support) && sameClauses(x.needed, y.needed) && sameClauses(x.left, y.left) && same(x.lost, y.lost) && x.errs == y.errs
}

// TestOrderAndDoubles: programs of 0 to 24 clauses, each in many orders.
func TestOrderAndDoubles(t *testing.T) {
	for size := range 25 {
		c := newChosen(int64(size))
		var cs []api.Clause
		for len(setOf(cs)) < size {
			cs = append(cs, one(c, c.fact(), c.rule(), c.rule()))
		}
		cs = setOf(cs)
		facts := append(plainModel(cs).inOrder(), p(a, a))
		for range 3 {
			f, u := one(c, facts...), one(c, "ann", "bob")
			want := answersOf(cs, f, u)
			for range 10 {
				if mixed := c.doubled(cs); !answersOf(mixed, f, u).same(want) {
					t.Errorf("P13.7: of %q and %v, %s, in the order %q other answers than %v", told(cs), f, u, told(mixed), want)
				}
			}
			slices.Reverse(cs)
			if !answersOf(slices.Concat(cs, cs), f, u).same(want) {
				t.Errorf("P13.7: of %q, backwards and twice, and %v, %s other answers than %v", told(cs), f, u, want)
			}
			slices.Reverse(cs)
		}
	}
}

// wide: a fact that needs the n + 1 clauses for c, and follows from the last of them by two rules; from each of them more follows. (n is above 0.)
func wide(n int) ([]api.Clause, api.Atom) {
	cs := rules(rule(atom("c", num(0))))
	for i := range n {
		from, to := atom("c", num(i)), atom("c", num(i+1))
		cs = append(cs, rule(to, from), rule(atom("x", num(i)), from), rule(atom("y", num(i)), atom("x", num(i))))
	}
	return append(cs, rule(p(), atom("c", num(n))), rule(p(), atom("c", num(n)), atom("x", num(0)))), p()
}

// TestAgainAndAgain: one answer, whichever trial ends first, with one processor and with several.
func TestAgainAndAgain(t *testing.T) {
	before := runtime.GOMAXPROCS(0)
	defer runtime.GOMAXPROCS(before)
	for _, n := range []int{1, 2, 6, 7, 8, 9, 15, 16, 17, 40} {
		cs, f := wide(n)
		want := setOf(slices.DeleteFunc(slices.Clone(cs), func(c api.Clause) bool { return c.Head.Name != "c" }))
		for i := range 12 {
			runtime.GOMAXPROCS(1 + i%4*3)
			wantNeeded(t, cs, f, told(want)...)
		}
	}
}

// TestAtOneTime: asked by several, of the same clauses and of others.
func TestAtOneTime(t *testing.T) {
	var programs [][]api.Clause
	var facts []api.Atom
	var want []answers
	for seed := int64(0); len(programs) < 12; seed++ {
		cs := newChosen(seed).program()
		l := append(plainModel(cs).inOrder(), p(a, a))
		f := l[len(l)/2]
		programs, facts, want = append(programs, cs), append(facts, f), append(want, answersOf(cs, f, "ann"))
	}
	var all sync.WaitGroup
	for first := range 8 {
		all.Go(func() {
			for i := range programs {
				n := (first/2 + i) % len(programs)
				if !answersOf(programs[n], facts[n], "ann").same(want[n]) {
					t.Errorf("R4: other answers of %q and %v, asked by several", told(programs[n]), facts[n])
				}
			}
		})
	}
	all.Wait()
}

// atWork: whether a goroutine still makes a model, as far as the goroutines' stacks show it.
func atWork() bool {
	room := make([]byte, 1<<20)
	stacks := string(room[:runtime.Stack(room, true)])
	return strings.Contains(stacks, "hearsay/plan.") || strings.Contains(stacks, "hearsay/base.")
}

// TestNoneStillRuns: behind an answer, with an error too, none works any more, and all that were started come to their end.
func TestNoneStillRuns(t *testing.T) {
	cs, f := wide(12)
	bad := append(slices.Clone(cs), rule(p(v(0))))
	before := runtime.NumGoroutine()
	for range 20 {
		why.Needed(cs, f)
		why.Needed(cs, p(a))
		why.Needed(bad, f)
		why.Needed(nil, f)
		if atWork() {
			t.Fatal("R4: a goroutine still works behind the answer")
		}
	}
	// One that has done its last work may be on its way out for a moment.
	for range 1000 {
		if runtime.NumGoroutine() <= before {
			return
		}
		time.Sleep(10 * time.Millisecond)
	}
	t.Errorf("R4: %d goroutines more than before", runtime.NumGoroutine()-before)
}
