package context_test

import (
	"fmt"
	"slices"
	"testing"

	"hearsay/api"
	"hearsay/context"
	"hearsay/keys"
)

// P20.17, R3: what is handed in stays, its spare room too, and isn't kept; what is answered is new memory.

// withRoom: a copy of l with spare room behind it that isn't zero.
func withRoom[T any](l []T, behind ...T) []T {
	return append(append(make([]T, 0, len(l)+len(behind)), l...), behind...)[:len(l)]
}

func sparedAtom(x api.Atom) api.Atom {
	x.Args = withRoom(x.Args, num(71), txt("b"), v(3))
	return x
}

// sparedClause: a copy each of whose lists has spare room that isn't zero.
func sparedClause(c api.Clause) api.Clause {
	out := api.Clause{Head: sparedAtom(c.Head)}
	for _, x := range c.Body {
		out.Body = append(out.Body, sparedAtom(x))
	}
	out.Body = withRoom(out.Body, api.Atom{Name: "p", Args: []api.Term{v(0)}}, api.Atom{})
	out.Tests = withRoom(c.Tests, api.Test{Op: 9, L: v(0)}, api.Test{})
	return out
}

func sparedRecord(r api.Record) api.Record {
	r.Clause, r.Bytes = sparedClause(r.Clause), withRoom(r.Bytes, []byte("HSC1 more")...)
	return r
}

func wholeAtom(x api.Atom) api.Atom {
	x.Args = slices.Clone(x.Args[:cap(x.Args)])
	return x
}

// wholeRecord: with all spare room taken in, in new memory.
func wholeRecord(r api.Record) api.Record {
	c := api.Clause{Head: wholeAtom(r.Clause.Head), Tests: slices.Clone(r.Clause.Tests[:cap(r.Clause.Tests)])}
	for _, x := range r.Clause.Body[:cap(r.Clause.Body)] {
		c.Body = append(c.Body, wholeAtom(x))
	}
	r.Clause, r.Bytes = c, slices.Clone(r.Bytes[:cap(r.Bytes)])
	return r
}

func sameRecord(x, y api.Record) bool {
	return x.Kind == y.Kind && sameClause(x.Clause, y.Clause) && slices.Equal(x.Bytes, y.Bytes) && x.Id == y.Id
}

func fill[T any](l []T, mark T) {
	l = l[:cap(l)]
	for i := range l {
		l[i] = mark
	}
}

// wantApart: no two of the lists share memory, spare room too. All are written over.
func wantApart[T any](t *testing.T, what string, lists [][]T, mark func(int) T, same func(x, y T) bool) {
	t.Helper()
	for i, l := range lists {
		fill(l, mark(i))
	}
	for i, l := range lists {
		if slices.ContainsFunc(l[:cap(l)], func(x T) bool { return !same(x, mark(i)) }) {
			t.Errorf("R3: two lists of %s share memory", what)
			return
		}
	}
}

func equal[T comparable](x, y T) bool { return x == y }

// lists: all lists of answers and arguments, by what they are lists of.
type lists struct {
	bytes   [][]byte
	packs   [][][]byte
	terms   [][]api.Term
	atoms   [][]api.Atom
	tests   [][]api.Test
	clauses [][]api.Clause
	numbers [][]int
	steps   [][]api.Step
	proofs  [][]api.Proof
}

func (l *lists) takeAtoms(of []api.Atom) {
	l.atoms = append(l.atoms, of)
	for _, x := range of[:cap(of)] {
		l.terms = append(l.terms, x.Args)
	}
}

func (l *lists) takeClauses(cs []api.Clause) {
	l.clauses = append(l.clauses, cs)
	for _, c := range cs[:cap(cs)] {
		l.takeClause(c)
	}
}

func (l *lists) takeClause(c api.Clause) {
	l.terms = append(l.terms, c.Head.Args)
	l.tests = append(l.tests, c.Tests)
	l.takeAtoms(c.Body)
}

func (l *lists) takeReply(r api.Reply) {
	l.takeAtoms(r.Answers)
	l.proofs = append(l.proofs, r.Proofs)
	for _, p := range r.Proofs[:cap(r.Proofs)] {
		l.takeClauses(p.Rules)
		l.steps = append(l.steps, p.Steps)
		for _, s := range p.Steps[:cap(p.Steps)] {
			l.terms = append(l.terms, s.Vals)
			l.numbers = append(l.numbers, s.Uses)
		}
	}
}

func (l *lists) takeChange(x api.Change) {
	l.takeAtoms(x.Came)
	l.takeAtoms(x.Gone)
}

func (l *lists) takeCerts(of [][]byte) {
	l.packs = append(l.packs, of)
	l.bytes = append(l.bytes, of[:cap(of)]...)
}

func (l *lists) takeRecord(r api.Record) {
	l.takeClause(r.Clause)
	l.bytes = append(l.bytes, r.Bytes)
}

// takeLooks: all lists that the calls without a change answer.
func (l *lists) takeLooks(x *context.Context) {
	l.takeClauses(x.Own())
	l.takeClauses(x.Clauses())
	l.takeCerts(x.Certs())
	for _, text := range queryTexts() {
		reply, _ := x.Query(text, 100)
		l.takeReply(reply)
		answers, _ := x.Ask(text)
		l.takeAtoms(answers)
	}
}

// wantApart: of all lists; all are written over, those that hold others last.
func (l *lists) wantApart(t *testing.T) {
	t.Helper()
	wantApart(t, "bytes", l.bytes, func(i int) byte { return byte(i) }, equal)
	wantApart(t, "bytes (by groups)", l.bytes, func(i int) byte { return byte(i >> 8) }, equal)
	wantApart(t, "terms", l.terms, func(i int) api.Term { return num(1000 + i) }, equal)
	wantApart(t, "tests", l.tests, func(i int) api.Test { return api.Test{Op: 1000 + i} }, equal)
	wantApart(t, "numbers", l.numbers, func(i int) int { return 1000 + i }, equal)
	wantApart(t, "atoms", l.atoms, func(i int) api.Atom { return api.Atom{Name: fmt.Sprint(i)} }, sameAtom)
	wantApart(t, "clauses", l.clauses, func(i int) api.Clause { return api.Clause{Head: api.Atom{Name: fmt.Sprint(i)}} }, sameClause)
	wantApart(t, "steps", l.steps, func(i int) api.Step { return api.Step{Rule: i} }, sameStep)
	wantApart(t, "derivations", l.proofs, func(i int) api.Proof { return api.Proof{Steps: make([]api.Step, i)} }, sameProof)
	wantApart(t, "lists of bytes", l.packs, func(i int) []byte { return make([]byte, i) }, slices.Equal)
}

// rich: a context whose clauses have lists of every kind, with a watch over a query that has answers; and a certificate that it hasn't taken.
func rich(t *testing.T) (*keys.Ring, *context.Context, []byte) {
	t.Helper()
	r := ringOf(t, "s", "ann", "bob")
	x := newContext(t, r, "ann")
	asserted(t, x, "p(a). p(b). e(a, b). q(X) :- p(X), X != 7. ok(X) :- q(X), W says p(X), X < z, X != 8. p(Y) :- p(X), e(X, Y). bob says q(X) :- bob says p(X). t.")
	imported(t, x, issued(t, r, "bob", "p(a)."), issued(t, r, "bob", "e(X, Y) :- p(X), p(Y), X != Y."))
	wantWatch(t, x, "p(X)?", 1, ok)
	return r, x, issued(t, r, "bob", "p(c).")
}

// TestAnswersAreNewMemory: of every call, asked several times; and what is written into them is never seen again.
func TestAnswersAreNewMemory(t *testing.T) {
	_, x, b := rich(t)
	_, other, _ := rich(t)
	var all lists
	for n := range 4 {
		all.takeLooks(x)
		for _, text := range texts("p(a).", "q(b).", "q(X) :- p(X), X != 7.") {
			said, f := x.Export(text, 100)
			if f != ok {
				t.Errorf("P20.6: Export(%q): %v", text, f)
			}
			all.bytes = append(all.bytes, said)
			other.Export(text, 100)
		}
		for _, y := range []*context.Context{x, other} {
			asserted(t, y, numbered("p", 2*n, 2*n+2))
			imported(t, y, slices.Clone(b))
		}
		change, err := x.News(1)
		if err != api.OK || len(change.Came) != 2 {
			t.Errorf("P20.10: %+v, %d", change, err)
		}
		all.takeChange(change)
		other.News(1)
	}
	for _, y := range []*context.Context{x, other} {
		retracted(t, y, numbered("p", 0, 7))
	}
	change, _ := x.News(1)
	other.News(1)
	all.takeChange(change)
	if len(all.terms) < 600 || len(all.steps) < 70 || len(all.numbers) < 100 || len(all.bytes) < 20 || len(all.tests) < 200 {
		t.Errorf("just %d lists of terms, %d of steps, %d of numbers, %d of bytes, %d of tests", len(all.terms), len(all.steps), len(all.numbers), len(all.bytes), len(all.tests))
	}
	all.wantApart(t)
	if seen(x) != seen(other) {
		t.Errorf("R3: what is written into answers is seen in later ones: %s\nwant\n%s", seen(x), seen(other))
	}
	wantNews(t, x, 1, "", "")
	asserted(t, x, "p(0).")
	retracted(t, x, "p(7).")
	wantNews(t, x, 1, "p(0)", "p(7)")
}

// TestMarksAreTheContexts: what is written into the answers of a query or of News isn't seen in the marks.
func TestMarksAreTheContexts(t *testing.T) {
	x := contextOf(t, "p(a). p(b).")
	wantWatch(t, x, "p(X)?", 1, ok)
	wantLeft := func(change api.Change, came, gone int) {
		t.Helper()
		if len(change.Came) != came || len(change.Gone) != gone {
			t.Errorf("P20.10: %+v", change)
		}
		reply, _ := x.Query("p(X)?", 9)
		var l lists
		l.takeReply(reply)
		l.takeChange(change)
		l.wantApart(t) // all is written over
		wantNews(t, x, 1, "", "")
	}
	for range 3 {
		asserted(t, x, "p(c). p(d).")
		change, _ := x.News(1)
		wantLeft(change, 2, 0)
		retracted(t, x, "p(c). p(a).")
		change, _ = x.News(1)
		wantLeft(change, 0, 2)
		asserted(t, x, "p(a).")
		retracted(t, x, "p(d).")
		change, _ = x.News(1)
		wantLeft(change, 1, 1)
	}
}

// TestBytesHandedIn: Import leaves them, their spare room too; what becomes of them afterwards isn't seen.
func TestBytesHandedIn(t *testing.T) {
	r, x, b := rich(t)
	_, other, _ := rich(t)
	good := string(b)
	for given := range unopened(t, good) {
		wantHandedIn(t, x, given)
	}
	before := seen(x)
	if before != seen(other) {
		t.Error("R3: bytes that are refused are seen")
	}
	wantHandedIn(t, x, good)
	wantHandedIn(t, x, good)
	imported(t, other, slices.Clone(b))
	if seen(x) != seen(other) {
		t.Errorf("R3: what became of the bytes is seen: %s", seen(x))
	}
	wantForget(t, x, sum(good), api.OK)
	if seen(x) != before || len(r.Names()) != 2 {
		t.Error("P20.5: it isn't as it was")
	}
}

func wantHandedIn(t *testing.T, x *context.Context, given string) {
	t.Helper()
	b := withRoom([]byte(given), []byte("HSC1\x03bob and more")...)
	before := slices.Clone(b[:cap(b)])
	x.Import(b)
	if !slices.Equal(b[:cap(b)], before) {
		t.Errorf("P20.17: Import changes %x", given)
	}
	fill(b, 'x')
}

// TestRecordsHandedIn: Play leaves them, their spare room too; what becomes of them afterwards isn't seen.
func TestRecordsHandedIn(t *testing.T) {
	for seed := range int64(40) {
		c := newChosen(seed)
		s := newScene(t)
		y := s.pairs[0]
		for _, text := range texts("p(a).", "q(X) :- p(X), X != 7.", "t :- 1 < 2.") {
			s.assert(s.pairs[1], text)
			s.export(s.pairs[1], text, 0)
		}
		for range 40 {
			record := c.record(y.p)
			given := sparedRecord(record)
			before := wholeRecord(given)
			s.want("P20.12: Play", fmt.Sprint(y.x.Play(given)), fmt.Sprint(y.p.play(record)), api.OK)
			if !sameRecord(wholeRecord(given), before) {
				t.Errorf("P20.17: Play changes %+v", record)
			}
			var l lists
			l.takeRecord(given)
			l.wantApart(t) // all is written over
			s.look()
		}
	}
}

// TestStillAsAnswered: what was told stays as it was, whatever the context does afterwards.
func TestStillAsAnswered(t *testing.T) {
	_, x, b := rich(t)
	own, clauses, certs := x.Own(), x.Clauses(), x.Certs()
	reply, _ := x.Query("W says p(X)?", 100)
	answers, _ := x.Ask("p(X)?")
	asserted(t, x, "p(c).")
	change, _ := x.News(1)
	told := func() string {
		return fmt.Sprintf("%+v %+v %x %+v %+v %+v", own, clauses, certs, reply, answers, change)
	}
	before := told()
	imported(t, x, b)
	retracted(t, x, "p(a). p(c). q(X) :- p(X), X != 7.")
	for _, y := range certs {
		wantForget(t, x, sum(string(y)), api.OK)
	}
	wantPlay(t, x, api.Record{Kind: api.RecAssert, Clause: clauseOf(t, "p(d).")}, api.OK)
	x.News(1)
	seen(x)
	if told() != before {
		t.Errorf("R3: what was told has changed: %s, was %s", told(), before)
	}
}

// TestAnyArguments: every call ends and none panics, whatever it is given; and what is refused changes nothing.
func TestAnyArguments(t *testing.T) {
	r, x, _ := rich(t)
	odd := texts("", "\x00", "\xff\xfe", long(70000), "p(", "((((", "\"", "%", "?", ".", ":-", "says", "p says q", "-", "--1", "99999999999999999999", "p(\"\\", "X", "_", "p(X)?", "p(a).\x00", "\n\n", "é(a).", "p(a) . ? :-")
	wantStill(t, "odd texts", r, x, func() {
		for _, text := range odd {
			if text == "p(X)?" {
				continue
			}
			x.Retract(text)
			x.Ask(text)
			x.Import([]byte(text))
			for _, fuel := range fuels() {
				x.Query(text, fuel)
				x.Export(text, fuel)
			}
			if n, f := x.Watch(text); f == ok {
				t.Errorf("Watch(%q) is %d", text, n)
			}
			if n, _ := x.Assert(text); n != 0 {
				t.Errorf("Assert(%q) is %d", text, n)
			}
		}
		for _, w := range append(fuels(), 64, 65) {
			if w != 1 {
				wantNoNews(t, x, w, api.ErrWatch)
			}
		}
		for _, c := range append(invalid(), api.Clause{Head: api.Atom{Args: make([]api.Term, 1000)}, Body: make([]api.Atom, 1000), Tests: make([]api.Test, 1000)}) {
			for kind := range 9 {
				wantPlay(t, x, api.Record{Kind: kind - 2, Clause: c, Bytes: []byte("HSC1")}, api.ErrReplay)
				wantPlay(t, x, api.Record{Kind: kind - 2, Clause: c}, api.ErrReplay)
			}
		}
	})
}
