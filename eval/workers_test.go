package eval_test

import (
	"runtime"
	"slices"
	"strings"
	"sync"
	"testing"
	"time"

	"hearsay/api"
	"hearsay/eval"
)

// P10.4, R4.

// someWorkers: below 1, few, as many as clauses, as the most, just above it, far above it.
func someWorkers(clauses int) []int {
	return numbers(leastInt, -1<<32, -1, 0, 1, 2, 3, clauses-1, clauses, clauses+1, 63, 64, 65, 1000, 1<<32+1, greatestInt)
}

// busy: a program with many rules of different weight, each of which gives some facts that others give too.
func busy(t *testing.T) []api.Clause {
	t.Helper()
	cs := readAll(t, "path(V0, V1) :- edge(V0, V1).", "path(V0, V1) :- path(V0, V2), path(V2, V1).", "path(V0, V1) :- edge(V0, V2), path(V2, V1).", "far(V0) :- path(0, V0).", "far(V0) :- path(V1, V0), V1 != V0.", "odd(V0) :- path(V0, V1), path(V1, V0).")
	for n := range 25 {
		cs = append(cs, rule(atom("edge", num(n), num((n*7+3)%25))), rule(atom("far", num(n)), atom("path", num(n), num(n+1))))
	}
	return cs
}

// TestWorkers: one answer for all, again and again; errors too.
func TestWorkers(t *testing.T) {
	programs := [][]api.Clause{nil, readAll(t, "p."), readAll(t, "p :- p."), exampleChain(t), busy(t)}
	for seed := range int64(25) {
		programs = append(programs, newChosen(seed).program())
	}
	for _, cs := range programs {
		want := run(t, cs)
		for _, workers := range someWorkers(len(want.Rules)) {
			for range 3 {
				if m, err := eval.Run(cs, want.Rounds, workers); !sameModel(m, want) || err != api.OK {
					t.Errorf("P10.4: another model by %d workers of %v, %d", workers, syntaxAll(cs), err)
				}
				if m, err := eval.Run(cs, want.Rounds-1, workers); !sameModel(m, api.Model{}) || err != api.ErrFuel {
					t.Errorf("P10.4: by %d workers with too little fuel: %d", workers, err)
				}
			}
		}
	}
	over := pairs(t, 31)
	bad := slices.Concat(over, clausesOf(refusals()))
	for _, workers := range someWorkers(len(over)) {
		if m, err := eval.Run(over, 2, workers); !sameModel(m, api.Model{}) || err != api.ErrFacts {
			t.Errorf("P10.4: by %d workers with too many facts: %d", workers, err)
		}
		if m, err := eval.Run(bad, 2, workers); !sameModel(m, api.Model{}) || err != leastError(refusals()) {
			t.Errorf("P10.4: by %d workers of what isn't valid: %d", workers, err)
		}
	}
}

// atWork: whether a goroutine does something for a rule, as far as the goroutines' stacks show it.
func atWork() bool {
	room := make([]byte, 1<<20)
	stacks := string(room[:runtime.Stack(room, true)])
	return strings.Contains(stacks, "hearsay/plan.") || strings.Contains(stacks, "hearsay/base.")
}

// TestNoneStillRuns: behind an answer, with an error too, none works any more, and all that were started come to their end.
func TestNoneStillRuns(t *testing.T) {
	cs := busy(t)
	before := runtime.NumGoroutine()
	for i, workers := range slices.Concat(someWorkers(len(cs)), nTimes(20, 64)) {
		eval.Run(cs, 1+i%9, workers)
		if atWork() {
			t.Fatalf("P10.4: of %d workers one still works behind the answer", workers)
		}
	}
	// One that has done its last work may be on its way out for a moment.
	for range 1000 {
		if runtime.NumGoroutine() <= before {
			return
		}
		time.Sleep(10 * time.Millisecond)
	}
	t.Errorf("P10.4: %d goroutines more than before", runtime.NumGoroutine()-before)
}

// TestRunAtOneTime: by several, of the same clauses and of others.
func TestRunAtOneTime(t *testing.T) {
	var programs [][]api.Clause
	var want []api.Model
	for seed := range int64(12) {
		cs := newChosen(seed).program()
		programs = append(programs, cs)
		want = append(want, run(t, cs))
	}
	ask := p(v(0), v(1))
	var all sync.WaitGroup
	for first := range 8 {
		all.Go(func() {
			for i := range programs {
				n := (first/2 + i) % len(programs)
				m, err := eval.Run(programs[n], greatestInt, 1+first)
				if !sameModel(m, want[n]) || err != api.OK {
					t.Errorf("R4: another model of %v, %d", syntaxAll(programs[n]), err)
				}
				wantAnswers(t, want[n], ask, plainAnswers(want[n], ask)...)
			}
		})
	}
	all.Wait()
}
