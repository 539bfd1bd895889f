package proof_test

import (
	"slices"
	"sync"
	"testing"

	"hearsay/api"
	"hearsay/eval"
	"hearsay/proof"
)

// P11.6: out of the models that Run answers.

// wantLeast: what the promise says of the derivation of each fact of the model, and of atoms that are none.
func wantLeast(t *testing.T, cs []api.Clause) int {
	t.Helper()
	m := run(t, cs)
	steps := 0
	for _, k := range m.Facts {
		got, err := proof.Prove(m, k.Fact)
		if err != api.OK {
			t.Fatalf("P11.6: Prove of %v out of the model of %v is %d", k.Fact, cs, err)
		}
		wantDerives(t, m, cs, k, got)
		steps = max(steps, len(got.Steps))
	}
	for _, f := range atoms(p(a, ann), p(txt("1")), by(ann, q(a, a)), p(a, v(0)), by(v(0), p(a)), atom("p0"), atom("c3", num(1)), api.Atom{}) {
		isFact := slices.ContainsFunc(m.Facts, func(k api.Known) bool { return sameAtom(k.Fact, f) })
		if _, err := proof.Prove(m, f); isFact != (err == api.OK) || !isFact && err != api.ErrNoFact {
			t.Errorf("P11.6: Prove of %v out of the model of %v is %d", f, cs, err)
		}
	}
	return steps
}

func wantDerives(t *testing.T, m api.Model, cs []api.Clause, k api.Known, got api.Proof) {
	t.Helper()
	facts := plainFacts(got)
	for _, c := range got.Rules {
		if !slices.ContainsFunc(cs, func(x api.Clause) bool { return sameClause(x, c) }) {
			t.Errorf("P11.6: the rule %v isn't one of the clauses", c)
		}
	}
	if !follows(got) {
		t.Errorf("P11.6: a step doesn't follow:\n%s", proof.Text(got))
	}
	if n := len(facts); n == 0 || n > len(m.Facts) || len(inOrder(facts, compareAtoms)) != n || !sameAtom(facts[n-1], k.Fact) {
		t.Errorf("P11.6: of %d facts, the derivation of %v has %d steps:\n%s", len(m.Facts), k.Fact, n, proof.Text(got))
	}
	if d := proof.Depth(got); d != k.Round || d != plainDepth(got) {
		t.Errorf("P11.6: the depth of a derivation of %v, which is of round %d, is %d", k.Fact, k.Round, d)
	}
	for i := range facts[:len(facts)-1] {
		if !slices.ContainsFunc(got.Steps[i+1:], func(s api.Step) bool { return slices.Contains(s.Uses, i) }) {
			t.Errorf("P11.1: the step %d isn't used:\n%s", i, proof.Text(got))
		}
	}
	if trimmed := proof.Trim(got); !sameProof(trimmed, got) {
		t.Errorf("P11.7: Trim of\n%s is\n%s", proof.Text(got), proof.Text(trimmed))
	}
}

func TestOutOfLeastModels(t *testing.T) {
	most := 0
	for seed := range int64(500) {
		cs := newChosen(seed).program()
		most = max(most, wantLeast(t, cs))
		wantPlain(t, run(t, cs), map[api.Errno]int{})
	}
	if most < 8 {
		t.Errorf("the programs by chance are too much alike: no derivation has more than %d steps", most)
	}
	wantLeast(t, chainRules(t))
	wantLeast(t, nil)
	wantLeast(t, readAll(t, "t :- u, v.", "u.", "v.", "w :- w."))
	wantLeast(t, readAll(t, "alice says good(V0) :- V1 says friend(V0), V1 != bob.", "bob says friend(x).", "carl says friend(x).", "friend(y)."))
	wantLeast(t, readAll(t, `r(V0) :- s(V0, V1).`, "s(a, 2).", "s(a, 1).", `s(a, "1").`))
}

// TestManyFacts: a ring of edges, whose paths are all pairs: as many steps as are needed, and a depth of all rounds.
func TestManyFacts(t *testing.T) {
	cs := readAll(t, "path(V0, V1) :- edge(V0, V1).", "path(V0, V1) :- path(V0, V2), edge(V2, V1).")
	const n = 40
	for i := range n {
		cs = append(cs, rule(edge(num(i), num((i+1)%n))))
	}
	m := run(t, cs)
	for k := 1; k < n; k++ {
		got, err := proof.Prove(m, path(num(0), num(k)))
		if err != api.OK || proof.Depth(got) != k+1 || len(got.Steps) != 2*k || !follows(got) {
			t.Errorf("P11.6: %d edges on: %d, %d steps, depth %d", k, err, len(got.Steps), proof.Depth(got))
		}
	}
	// All facts, in one derivation.
	whole := rules(rule(p(), q(), r(), s()), rule(q(), r(), s()), rule(r(), s()), rule(s()))
	model := run(t, whole)
	if got, _ := proof.Prove(model, p()); len(got.Steps) != len(model.Facts) || len(got.Rules) != 4 {
		t.Errorf("P11.6: the derivation of what needs all facts has %d steps", len(got.Steps))
	}
}

// TestAnyOrderOfFacts: what Prove answers doesn't hang on the order in which a model tells its facts.
func TestAnyOrderOfFacts(t *testing.T) {
	for seed := range int64(100) {
		c := newChosen(seed)
		m := run(t, c.program())
		mixed := m
		mixed.Facts = slices.Clone(m.Facts)
		c.Shuffle(len(m.Facts), func(i, k int) { mixed.Facts[i], mixed.Facts[k] = mixed.Facts[k], mixed.Facts[i] })
		for _, k := range m.Facts {
			want, _ := proof.Prove(m, k.Fact)
			wantProof(t, mixed, k.Fact, want)
		}
	}
}

// TestAskedAtOneTime: by several, of one model and of one derivation: R4.
func TestAskedAtOneTime(t *testing.T) {
	m, err := eval.Whole(newChosen(7).program())
	if err != api.OK {
		t.Fatal(err)
	}
	wandering := newChosen(8).wandering(m.Rules)
	wantTrimmed, wantTold := plainTrim(wandering), proof.Text(wandering)
	var all sync.WaitGroup
	for range 8 {
		all.Add(1)
		go func() {
			defer all.Done()
			for _, k := range m.Facts {
				want, _ := plainProve(m, k.Fact)
				if got, err := proof.Prove(m, k.Fact); !sameProof(got, want) || err != api.OK {
					t.Errorf("R4: Prove of %v, asked at one time, is %v, %d", k.Fact, got, err)
				}
			}
			if !sameProof(proof.Trim(wandering), wantTrimmed) || proof.Text(wandering) != wantTold || proof.Depth(wandering) != plainDepth(wandering) || !same(proof.Facts(wandering), plainFacts(wandering)) {
				t.Error("R4: what is told of a derivation changes when it is asked at one time")
			}
		}()
	}
	all.Wait()
}
