package world_test

import (
	"fmt"
	"slices"
	"testing"

	"hearsay/api"
	"hearsay/syntax"
	"hearsay/world"
)

// P24.2, P24.3, P24.6, T2: every kind of step with many arguments, in the rich world, beside the plain one.

// looks: the kinds that change nothing.
func looks() []int {
	return ints(api.DoQuery, api.DoAsk, api.DoWhy, api.DoLoss, api.DoShow, api.DoClauses, api.DoWaiting, api.DoRedundant)
}

// changing: the kinds that may change what a context's clauses are.
func changing() []int {
	return ints(api.DoEnroll, api.DoAssert, api.DoRetract, api.DoImport, api.DoForget, api.DoCrash)
}

// clausesOf: of each context, as texts.
func clausesOf(w *world.World) map[string]string {
	all := map[string]string{}
	for _, name := range w.Names() {
		all[name] = syntax.PrintAll(w.Do(doClauses(name)).Clauses)
	}
	return all
}

// digestsOf: what each has signed.
func digestsOf(w *world.World) map[string][]api.Digest {
	all := map[string][]api.Digest{}
	for _, name := range world.RingOf(w).Names() {
		all[name] = world.RingOf(w).Signed(name)
	}
	return all
}

// wantFew: P24.6: the step changes the clauses of none but Who, if it is of such a kind; and if it is no export, nothing is signed.
func wantFew(t *testing.T, d api.Do, clauses, clausesAfter map[string]string, digests, digestsAfter map[string][]api.Digest) {
	t.Helper()
	for name, after := range clausesAfter {
		if after != clauses[name] && (name != d.Who || !slices.Contains(changing(), d.Kind)) {
			t.Errorf("P24.6: Do(%s) changes the clauses of %q from\n%s\nto\n%s", shownDo(d), name, clauses[name], after)
		}
	}
	for name, after := range digestsAfter {
		if !slices.Equal(after, digests[name]) && (name != d.Who || d.Kind != api.DoExport) {
			t.Errorf("P24.6: Do(%s) signs as %q", shownDo(d), name)
		}
	}
}

// wantStep: the step in the rich world; what it is told, what it changes, and what is told by the probes behind it. If it changes nothing, they are told what they are told without it.
func wantStep(t *testing.T, d api.Do, untouched []api.Told) api.Errno {
	t.Helper()
	x := newTwin(t, "s", richSteps()...)
	before, clauses, digests := seen(x.w), clausesOf(x.w), digestsOf(x.w)
	got := x.do(d)
	x.look()
	wantFew(t, d, clauses, clausesOf(x.w), digests, digestsOf(x.w))
	nothing := got.Err != api.OK || slices.Contains(looks(), d.Kind)
	if after := seen(x.w); nothing && after != before {
		t.Errorf("P24.2: Do(%s), told %d, changes the world: %s", shownDo(d), got.Err, unlike(before, after))
	}
	if got.Err != api.OK && !sameTold(got, fault(got.Err, got.At)) {
		t.Errorf("R2: beside an error: %s", shownTold(got))
	}
	for i, p := range probes() {
		if told := x.do(p); nothing && !sameTold(told, untouched[i]) {
			t.Errorf("P24.2: behind Do(%s), told %d, Do(%s) is %s, want %s", shownDo(d), got.Err, shownDo(p), shownTold(told), shownTold(untouched[i]))
		}
	}
	x.look()
	return got.Err
}

func TestEveryStep(t *testing.T) {
	x := newTwin(t, "s", richSteps()...)
	var untouched []api.Told
	for _, p := range probes() {
		untouched = append(untouched, x.do(p))
	}
	for kind, l := range sampleSteps() {
		t.Run(fmt.Sprint("kind ", kind), func(t *testing.T) {
			t.Parallel()
			told := map[bool]int{}
			for _, d := range l {
				told[wantStep(t, d, untouched) == api.OK]++
			}
			if known := kind >= api.DoEnroll && kind <= api.DoRedundant; known && told[true] == 0 || kind != api.DoWaiting && told[false] == 0 {
				t.Errorf("too much alike: %v", told)
			}
		})
	}
}
