package world_test

import (
	"fmt"
	"slices"
	"testing"

	"hearsay/api"
	"hearsay/world"
)

// R3: what is handed in stays as it was, its spare room too, and isn't kept; what is answered is new memory.

// spared: a copy of l with spare room behind it that isn't zero.
func spared[T any](l []T, behind ...T) []T { return append(slices.Clone(l), behind...)[:len(l)] }

// fill: all of the list, its spare room too.
func fill[T any](l []T, mark T) {
	l = l[:cap(l)]
	for i := range l {
		l[i] = mark
	}
}

// wantApart: no two of the lists share memory, spare room too. All are written over.
func wantApart[T any](t *testing.T, what string, lists [][]T, mark func(int) T, same func(x, y T) bool) {
	t.Helper()
	for i, l := range lists {
		fill(l, mark(i))
	}
	for i, l := range lists {
		if slices.ContainsFunc(l[:cap(l)], func(x T) bool { return !same(x, mark(i)) }) {
			t.Errorf("R3: two lists of %s share memory", what)
			return
		}
	}
}

func equal[T comparable](x, y T) bool { return x == y }

// lists: all lists of answers, by what they are lists of.
type lists struct {
	bytes    [][]byte
	packs    [][][]byte
	terms    [][]api.Term
	atoms    [][]api.Atom
	tests    [][]api.Test
	clauses  [][]api.Clause
	numbers  [][]int
	steps    [][]api.Step
	proofs   [][]api.Proof
	messages [][]api.Message
	names    [][]string
}

func (l *lists) takeAtoms(of []api.Atom) {
	l.atoms = append(l.atoms, of)
	for _, x := range of[:cap(of)] {
		l.terms = append(l.terms, x.Args)
	}
}

func (l *lists) takeClauses(of []api.Clause) {
	l.clauses = append(l.clauses, of)
	for _, c := range of[:cap(of)] {
		l.terms = append(l.terms, c.Head.Args)
		l.tests = append(l.tests, c.Tests)
		l.takeAtoms(c.Body)
	}
}

func (l *lists) takeTold(x api.Told) {
	l.takeAtoms(x.Atoms)
	l.takeAtoms(x.Gone)
	l.takeClauses(x.Clauses)
	l.numbers = append(l.numbers, x.Nums)
	l.proofs = append(l.proofs, x.Proofs)
	for _, p := range x.Proofs[:cap(x.Proofs)] {
		l.takeClauses(p.Rules)
		l.steps = append(l.steps, p.Steps)
		for _, s := range p.Steps[:cap(p.Steps)] {
			l.terms, l.numbers = append(l.terms, s.Vals), append(l.numbers, s.Uses)
		}
	}
}

// takeLooks: all that the calls without a step answer.
func (l *lists) takeLooks(w *world.World) {
	l.names = append(l.names, w.Names())
	for _, name := range w.Names() {
		own, _ := w.Own(name)
		certs, _ := w.Certs(name)
		log, _ := w.Journal(name)
		l.takeClauses(own)
		l.packs = append(l.packs, certs)
		l.bytes = append(append(l.bytes, log), certs[:cap(certs)]...)
	}
	row := w.Waiting()
	l.messages = append(l.messages, row)
	for _, m := range row[:cap(row)] {
		l.bytes = append(l.bytes, m.Bytes)
	}
}

// wantApart: of all lists; all are written over, those that hold others last.
func (l *lists) wantApart(t *testing.T) {
	t.Helper()
	wantApart(t, "bytes", l.bytes, func(i int) byte { return byte(i) }, equal)
	wantApart(t, "bytes (by groups)", l.bytes, func(i int) byte { return byte(i >> 8) }, equal)
	wantApart(t, "terms", l.terms, func(i int) api.Term { return api.Term{Kind: api.KindNum, N: 1000 + i} }, equal)
	wantApart(t, "tests", l.tests, func(i int) api.Test { return api.Test{Op: 1000 + i} }, equal)
	wantApart(t, "numbers", l.numbers, func(i int) int { return 1000 + i }, equal)
	wantApart(t, "names", l.names, func(i int) string { return fmt.Sprint(i) }, equal)
	wantApart(t, "atoms", l.atoms, func(i int) api.Atom { return api.Atom{Name: fmt.Sprint(i)} }, sameAtom)
	wantApart(t, "clauses", l.clauses, func(i int) api.Clause { return api.Clause{Head: api.Atom{Name: fmt.Sprint(i)}} }, sameClause)
	wantApart(t, "steps", l.steps, func(i int) api.Step { return api.Step{Rule: i} }, sameStep)
	wantApart(t, "derivations", l.proofs, func(i int) api.Proof { return api.Proof{Steps: make([]api.Step, i)} }, sameProof)
	wantApart(t, "lists of bytes", l.packs, func(i int) []byte { return make([]byte, i) }, slices.Equal)
	wantApart(t, "messages", l.messages, func(i int) api.Message { return api.Message{N: 1000 + i} }, func(x, y api.Message) bool { return x.N == y.N })
}

// tellingSteps: of every kind that tells lists, and those that make something to be told.
func tellingSteps() []api.Do {
	return steps(
		doQuery("bob", "may(X)?", 9), doQuery("bob", "sum(X, Y)?", 9), doQuery("bob", "W says ok(X)?", 9), doAsk("bob", "may(X)?"), doAsk("bob", "W says good(X)?"), doNews("bob", 1), doNews("bob", 2), doNews("cy", 1),
		doWhy("bob", "may(x)?"), doWhy("bob", "sum(z, x)?"), doLoss("bob", "ann"), doLoss("cy", "ann"), doShow("bob", 5), doShow("cy", 5), doClauses("ann"), doClauses("bob"), doClauses("cy"), doWaiting(), doRedundant("dan"),
		doExport("ann", "ok(x).", 3), doProve("bob", "may(x)?", 9),
	)
}

// TestAnswersAreNewMemory: of every kind and every look, asked several times while the world changes; and what is written into them, and behind them, is never seen again.
func TestAnswersAreNewMemory(t *testing.T) {
	w, untouched := worldOf(t, richSteps()...), worldOf(t, richSteps()...)
	for round := range 4 {
		var all lists
		for range 3 {
			for _, d := range append(tellingSteps(), tellingSteps()...) {
				got := w.Do(d)
				if want := untouched.Do(d); !sameTold(got, want) {
					t.Errorf("R3: in round %d Do(%s) is %s, want %s", round, shownDo(d), shownTold(got), shownTold(want))
				}
				all.takeTold(got)
			}
			all.takeLooks(w)
		}
		if len(all.terms) < 500 || len(all.bytes) < 50 || len(all.steps) < 20 || len(all.tests) < 100 {
			t.Errorf("just %d lists of terms, %d of bytes, %d of steps, %d of tests", len(all.terms), len(all.bytes), len(all.steps), len(all.tests))
		}
		all.wantApart(t)
		if seen(w) != seen(untouched) {
			t.Errorf("R3: what is written into answers is seen: %s", unlike(seen(untouched), seen(w)))
		}
		for _, d := range steps(doAssert("bob", numbered("may", round, round+2)), doRetract("bob", numbered("may", round, round+1)), doImport("bob", 6), doCopy(5), doCrash("cy", greatestInt), doWatch("cy", "W says may(X)?")) {
			wantTold(t, w, d, untouched.Do(d))
		}
	}
	for _, p := range probes() {
		wantTold(t, w, p, untouched.Do(p))
	}
}

// grow: something is put behind each list.
func grow(x api.Told) {
	for _, l := range [][]api.Atom{x.Atoms, x.Gone} {
		_ = append(l, api.Atom{Name: "grown"})
		for _, a := range l {
			_ = append(a.Args, api.Term{Kind: api.KindNum, N: 77})
		}
	}
	_ = append(x.Clauses, api.Clause{Head: api.Atom{Name: "grown"}})
	for _, c := range x.Clauses {
		_ = append(c.Head.Args, api.Term{Kind: api.KindNum, N: 78})
		_ = append(c.Body, api.Atom{Name: "grown"})
		_ = append(c.Tests, api.Test{Op: 9})
	}
	_ = append(x.Nums, 79)
	_ = append(x.Proofs, api.Proof{Steps: make([]api.Step, 3)})
}

// TestAnswersGrown: by the caller; neither the world nor another answer is changed.
func TestAnswersGrown(t *testing.T) {
	w, untouched := worldOf(t, richSteps()...), worldOf(t, richSteps()...)
	for _, d := range append(tellingSteps(), probes()...) {
		got, want := w.Do(d), untouched.Do(d)
		grow(got)
		if !sameTold(got, want) {
			t.Errorf("R3: grown, Do(%s) is %s, want %s", shownDo(d), shownTold(got), shownTold(want))
		}
	}
	for _, name := range w.Names() {
		certs, _ := w.Certs(name)
		log, _ := w.Journal(name)
		for _, b := range append(certs, log) {
			_ = append(b, "grown by many bytes"...)
		}
		own, _ := w.Own(name)
		grow(api.Told{Clauses: own})
		_ = append(certs, []byte("grown"))
	}
	for _, m := range w.Waiting() {
		_ = append(m.Bytes, 'x')
	}
	_ = append(w.Waiting(), api.Message{N: 1})
	_ = append(w.Names(), "zz")
	if seen(w) != seen(untouched) {
		t.Errorf("R3: what was put behind answers is seen: %s", unlike(seen(untouched), seen(w)))
	}
}

// TestStillAsAnswered: what was told stays as it was, whatever is done to the world afterwards.
func TestStillAsAnswered(t *testing.T) {
	w, again := worldOf(t, richSteps()...), worldOf(t, richSteps()...)
	var told, want []api.Told
	for _, d := range tellingSteps() {
		told, want = append(told, w.Do(d)), append(want, again.Do(d))
	}
	looked := fmt.Sprint(w.Waiting())
	row, names := w.Waiting(), w.Names()
	own, _ := w.Own("bob")
	certs, _ := w.Certs("bob")
	log, _ := w.Journal("bob")
	kept := func() string { return fmt.Sprint(row, names, own, certs, log) }
	before := kept()
	for _, n := range richMessages {
		wantDone(t, w, doFlip(n, 0, -1), doFlip(n, 1, 5), doCut(n, 2))
	}
	for _, p := range probes() {
		w.Do(p)
	}
	for _, who := range w.Names() {
		wantDone(t, w, doCrash(who, 0), doAssert(who, "other(1)."))
	}
	for i, x := range told {
		if !sameTold(x, want[i]) {
			t.Errorf("R3: what was told has become %s, was %s", shownTold(x), shownTold(want[i]))
		}
	}
	if kept() != before || fmt.Sprint(row) != looked {
		t.Errorf("R3: what looks showed has become %.900s, was %.900s", kept(), before)
	}
}

// TestSecretsStay: New and Play leave them, their spare room too; and what becomes of them afterwards isn't seen.
func TestSecretsStay(t *testing.T) {
	for _, text := range append(secrets(), "secret") {
		secret := spared([]byte(text), []byte("more of it")...)
		before := slices.Clone(secret[:cap(secret)])
		w := world.New(secret)
		world.Play(secret, richSteps())
		if !slices.Equal(secret[:cap(secret)], before) {
			t.Errorf("R3: the secret %.30q has changed", text)
		}
		wantDone(t, w, doEnroll("ann"))
		fill(secret, '#')
		wantDone(t, w, doEnroll("bob"), doAssert("ann", "p(1)."), doAssert("bob", "p(1)."))
		wantTold(t, w, doExport("ann", "p(1).", 0), sent(1, idOf(certificate(text, "ann", "p(1)."))))
		wantTold(t, w, doExport("bob", "p(1).", 0), sent(2, idOf(certificate(text, "bob", "p(1)."))))
	}
}

// TestForgedBytesStay: a step leaves its bytes, their spare room too, also where it is refused, and all that is done to the message later; and what becomes of them afterwards isn't seen.
func TestForgedBytesStay(t *testing.T) {
	good := certificate("s", "ann", "p(1).")
	for _, text := range texts("", "x", good, good+"x", long(api.MaxMessage), long(api.MaxMessage+1)) {
		for _, kind := range append(noKinds(), api.DoForge, api.DoWaiting, api.DoAssert, api.DoImport) {
			w := worldOf(t, doEnroll("ann"), doEnroll("bob"), doAssert("ann", "p(1)."), doExport("ann", "p(1).", 0))
			b := spared([]byte(text), []byte("HSC1 and more")...)
			before := slices.Clone(b[:cap(b)])
			w.Do(api.Do{Kind: kind, Who: "bob", Text: "q(1).", N: 1, Bytes: b})
			for _, d := range steps(doFlip(2, 0, 1), doCopy(2), doFlip(2, 0, 1), doImport("bob", 2), doShow("bob", 2), doCut(3, 0), doSwap(1, 3)) {
				w.Do(d)
			}
			if !slices.Equal(b[:cap(b)], before) {
				t.Errorf("R3: a step of the kind %d changes its bytes %.30q", kind, text)
			}
			shown := seen(w)
			fill(b, '#')
			_ = append(b, "grown"...)
			if seen(w) != shown {
				t.Errorf("R3: a step of the kind %d keeps its bytes %.30q", kind, text)
			}
		}
	}
}

// TestStepsStay: Play leaves the list of steps, its spare room and their bytes.
func TestStepsStay(t *testing.T) {
	given := append(steps(), richSteps()...)
	for i := range given {
		given[i].Bytes = spared(append([]byte("x"), given[i].Bytes...), []byte("behind")...)
	}
	given = spared(given, doEnroll("behind"), doForge("behind"))
	shown := func() string {
		var s string
		for _, d := range given[:cap(given)] {
			s += fmt.Sprintf("%v %q\n", d, d.Bytes[:cap(d.Bytes)])
		}
		return s
	}
	before := shown()
	told := world.Play([]byte("s"), given)
	if len(told) != len(given) || shown() != before {
		t.Errorf("R3: Play changes its steps: %s", unlike(before, shown()))
	}
	var all lists
	for range 3 {
		for _, x := range world.Play([]byte("s"), append(given, tellingSteps()...)) {
			all.takeTold(x)
		}
	}
	all.wantApart(t)
	if shown() != before {
		t.Errorf("R3: what Play told shares memory with its steps: %s", unlike(before, shown()))
	}
}

// TestOneBufferOfManySteps: used again and again for bytes.
func TestOneBufferOfManySteps(t *testing.T) {
	w := enrolled(t, "ann")
	buffer := make([]byte, 0, 100)
	var want []string
	for n := 1; n <= 50; n++ {
		buffer = fmt.Appendf(buffer[:0], "message %d", n)
		wantTold(t, w, api.Do{Kind: api.DoForge, Bytes: buffer}, toldN(n))
		want = append(want, fmt.Sprintf("%d:message %d", n, n))
	}
	wantRow(t, w, want...)
}
