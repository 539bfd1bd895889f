package world_test

import (
	"fmt"
	"slices"
	"strconv"
	"strings"
	"testing"

	"hearsay/api"
	"hearsay/syntax"
	"hearsay/world"
)

// P24.2, R2: of each kind each error of the table, and where two apply the one that is named first.

// trial: a step that would be told OK in its world, and what was made wrong of the two.
type trial struct {
	t *testing.T
	w *world.World
	d api.Do
}

// wrong: what makes a step be told this error. Two of one place can't be made both.
type wrong struct {
	place string
	err   api.Errno
	at    int
	spoil func(*trial)
}

// firstSteps: bob took what ann says, and has a bundle, a watch and facts of his own; there are a certificate (2), a bundle (3) and four bytes (4).
func firstSteps() []api.Do {
	return steps(
		doEnroll("ann"), doEnroll("bob"), doEnroll("cy"), doAssert("ann", "good(x). good(y). ok(X) :- good(X)."), doExport("ann", "good(x).", 0), doCopy(1), doImport("bob", 1),
		doAssert("bob", "may(X) :- ann says good(X). a(1). a(2)."), doProve("bob", "may(x)?", 3), doForge("junk"), doWatch("bob", "may(X)?"),
	)
}

// Where a step can be made wrong: its fields ..

func whoIs(err api.Errno, names ...string) []wrong {
	var l []wrong
	for _, name := range names {
		l = append(l, wrong{"who", err, 0, func(x *trial) { x.d.Who = name }})
	}
	return l
}

func nobody() []wrong { return whoIs(api.ErrNoContext, "nobody", "", long(65), "Bob", "bob ") }

func textIs(err api.Errno, at int, text string) []wrong {
	return []wrong{{"text", err, at, func(x *trial) { x.d.Text = text }}}
}

func toIs(names ...string) []wrong {
	var l []wrong
	for _, name := range names {
		l = append(l, wrong{"to", api.ErrPrincipal, 0, func(x *trial) { x.d.To = name }})
	}
	return l
}

func nIs(err api.Errno, numbers ...int) []wrong {
	var l []wrong
	for _, n := range numbers {
		l = append(l, wrong{"n", err, 0, func(x *trial) { x.d.N = n }})
	}
	return l
}

func mIs(err api.Errno, numbers ...int) []wrong {
	var l []wrong
	for _, m := range numbers {
		l = append(l, wrong{"m", err, 0, func(x *trial) { x.d.M = m }})
	}
	return l
}

func noMessage() []wrong { return nIs(api.ErrNoMessage, 1, 5, 0, -1, leastInt, greatestInt) }

func bytesAre(err api.Errno, b string) []wrong {
	return []wrong{{"bytes", err, 0, func(x *trial) { x.d.Bytes = []byte(b) }}}
}

// .. and its world.

func worldIs(place string, err api.Errno, l ...api.Do) []wrong {
	return []wrong{{place, err, 0, func(x *trial) { wantDone(x.t, x.w, l...) }}}
}

func fullWire() []wrong {
	return []wrong{{"wire", api.ErrWireFull, 0, func(x *trial) { fillWire(x.t, x.w) }}}
}

// many: more clauses than a model is made of; also without one of them, so that each is asked of too many others.
func many() []wrong {
	return worldIs("many clauses", api.ErrMany, doAssert("bob", numbered("many", 0, 1100)))
}

// wide: of more facts than a model may have, from the second round on.
const wide = "w(0). w(1). w(2). w(3). w(4). w(5). w(6). w(7). w(8). w(9). wide(A, B, C, D) :- w(A), w(B), w(C), w(D)."

func manyFacts() []wrong { return worldIs("many facts", api.ErrFacts, doAssert("bob", wide)) }

func manyWatches() []wrong {
	var l []api.Do
	for range api.MaxWatches - 1 {
		l = append(l, doWatch("bob", "may(X)?"))
	}
	return worldIs("watches", api.ErrWatch, l...)
}

func manyContexts() []wrong {
	var l []api.Do
	for n := range api.MaxContexts - 3 {
		l = append(l, doEnroll("one more "+strconv.Itoa(n)))
	}
	return worldIs("contexts", api.ErrContexts, l...)
}

// Faults of texts: each with what syntax says of it; some are told by hand, that the place be the right one.

func programFaults() []wrong {
	l := textIs(api.ErrSyntax, 2, "p(")
	l = append(l, textIs(api.ErrSafe, 6, "a(1). p(X).")...)
	for _, text := range texts("never(1). p(", "p. a:b", "p(\"x", "p(\"\\q\").", "a(1). p(007).", "p(Ann) :- q(Ann) . .", long(33)+".", "p("+long(65)+").", strings.Repeat("%", api.MaxSource+1), "p :- "+strings.Repeat("(", 17)) {
		_, f := syntax.Program(text)
		l = append(l, textIs(f.Err, f.At, text)...)
	}
	return l
}

func clauseFaults() []wrong {
	l := textIs(api.ErrSyntax, 6, "may(x)")
	for _, text := range texts("", "may(x). a(1).", "bob says p(", "may(X).", "may(x) :- p; q.", strings.Repeat("%", api.MaxText+1)) {
		_, f := syntax.Clause(text)
		l = append(l, textIs(f.Err, f.At, text)...)
	}
	return l
}

func queryFaults() []wrong {
	l := textIs(api.ErrSyntax, 5, "may(Y")
	for _, text := range texts("", "may(X)", "may(x).", "may(x)? ?", "\"\" says may(x)?", "may(x)?&", "may(\"x)?", strings.Repeat(" ", api.MaxText+1)) {
		_, f := syntax.Query(text)
		l = append(l, textIs(f.Err, f.At, text)...)
	}
	return l
}

// kindOfStep: a step that is told OK, and in the table's order what can be made wrong.
type kindOfStep struct {
	good   api.Do
	wrongs [][]wrong
}

func goodId() string { return hexOf(idOf(certificate("s", "ann", "good(x)."))) }

func changingKinds() []kindOfStep {
	return []kindOfStep{
		{doEnroll("dan"), [][]wrong{whoIs(api.ErrPrincipal, "", long(65), long(100000)), whoIs(api.ErrEnrolled, "ann", "bob"), manyContexts()}},
		{doAssert("bob", "q(a)."), [][]wrong{nobody(), programFaults()}},
		{doRetract("bob", "a(1)."), [][]wrong{nobody(), programFaults(), textIs(api.ErrNotOwn, 0, "a(1). never(2).")}},
		{doForget("bob", goodId()), [][]wrong{nobody(), textIs(api.ErrHex, 0, "zz"), textIs(api.ErrHex, 0, strings.ToUpper(goodId())), textIs(api.ErrNoCert, 0, hexOf(api.Digest{1})), worldIs("taken", api.ErrNoCert, doForget("bob", goodId()))}},
		{doCrash("bob", 100), [][]wrong{nobody()}},
	}
}

func askingKinds() []kindOfStep {
	return []kindOfStep{
		{doQuery("bob", "may(X)?", 3), [][]wrong{nobody(), queryFaults(), many(), nIs(api.ErrFuel, 1, 0, leastInt), manyFacts()}},
		{doAsk("bob", "may(X)?"), [][]wrong{nobody(), queryFaults(), many(), {{"text", api.ErrCalls, 0, func(x *trial) {
			wantDone(x.t, x.w, doAssert("bob", wide))
			x.d.Text = "wide(A, B, C, D)?"
		}}}}},
		{doWatch("bob", "a(X)?"), [][]wrong{nobody(), queryFaults(), many(), manyFacts(), manyWatches()}},
		{doNews("bob", 1), [][]wrong{nobody(), nIs(api.ErrWatch, 2, 0, -1, 65, leastInt, greatestInt), many(), manyFacts()}},
		{doWhy("bob", "may(x)?"), [][]wrong{nobody(), queryFaults(), textIs(api.ErrFact, 0, "may(X)?"), textIs(api.ErrFact, 0, "W says may(x)?"), many(), manyFacts(), textIs(api.ErrNoFact, 0, "never?")}},
		{doLoss("bob", "ann"), [][]wrong{nobody(), toIs("", long(65), long(100000)), many(), manyFacts()}},
		{doClauses("bob"), [][]wrong{nobody()}},
		{doRedundant("bob"), [][]wrong{nobody(), worldIs("tests", api.ErrTests, doAssert("bob", "t(X) :- a(X), X < 2.")), many(), manyFacts()}},
	}
}

func sendingKinds() []kindOfStep {
	return []kindOfStep{
		{doExport("bob", "may(x).", 3), [][]wrong{nobody(), fullWire(), clauseFaults(), textIs(api.ErrQualified, 0, "bob says never :- p."), textIs(api.ErrNotHeld, 0, "never :- p."), many(), nIs(api.ErrFuel, 1, 0, leastInt), manyFacts(), textIs(api.ErrNotHeld, 0, "never.")}},
		{doProve("bob", "may(x)?", 3), [][]wrong{nobody(), fullWire(), queryFaults(), textIs(api.ErrFact, 0, "never(X)?"), many(), nIs(api.ErrFuel, 1, 0, leastInt), manyFacts(), textIs(api.ErrNoFact, 0, "never?")}},
		{doImport("cy", 2), [][]wrong{nobody(), noMessage(), nIs(api.ErrMagic, 3, 4), worldIs("message", api.ErrSeal, doFlip(2, 45, 1)), worldIs("message", api.ErrShort, doCut(2, 40))}},
		{doShow("bob", 3), [][]wrong{nobody(), noMessage(), nIs(api.ErrBundle, 2, 4), worldIs("message", api.ErrBundle, doCut(3, 60)), worldIs("policy", api.ErrForeign, doRetract("bob", "may(X) :- ann says good(X)."))}},
		{doDrop(2), [][]wrong{noMessage()}},
		{doCopy(2), [][]wrong{noMessage(), fullWire()}},
		{doSwap(2, 3), [][]wrong{noMessage(), mIs(api.ErrNoMessage, 1, 5, 0, leastInt, greatestInt)}},
		{doFlip(2, 0, 1), [][]wrong{noMessage(), mIs(api.ErrPlace, -1, 4000, leastInt, greatestInt)}},
		{doCut(2, 9), [][]wrong{noMessage(), mIs(api.ErrPlace, -1, 4000, leastInt, greatestInt)}},
		{doForge("x"), [][]wrong{bytesAre(api.ErrMessageLong, long(api.MaxMessage+1)), fullWire()}},
		{doWaiting(), nil},
	}
}

// wantFirst: with these made wrong the step is told the first one's error, and nothing is changed.
func wantFirst(t *testing.T, k kindOfStep, l ...wrong) {
	t.Helper()
	x := &trial{t, worldOf(t, firstSteps()...), k.good}
	for _, y := range slices.Backward(l) { // what the table names last is made first: watches ahead of what keeps them from being made
		y.spoil(x)
	}
	if len(l) == 0 {
		wantDone(t, x.w, x.d)
		return
	}
	wantRefused(t, x.w, x.d, l[0].err, l[0].at)
}

func TestFirstErrors(t *testing.T) {
	for _, k := range append(append(changingKinds(), askingKinds()...), sendingKinds()...) {
		t.Run(fmt.Sprint("kind ", k.good.Kind), func(t *testing.T) {
			t.Parallel()
			wantFirst(t, k)
			var all []wrong
			for _, l := range k.wrongs {
				all = append(all, l...)
			}
			for i, x := range all {
				wantFirst(t, k, x)
				for _, y := range all[i+1:] {
					if x.place != y.place {
						wantFirst(t, k, x, y)
					}
				}
			}
		})
	}
}

// TestManyErrors: three and more at a time: the one that is named first.
func TestManyErrors(t *testing.T) {
	for _, k := range append(append(changingKinds(), askingKinds()...), sendingKinds()...) {
		var l []wrong
		places := map[string]int{}
		for _, group := range k.wrongs {
			if x := group[0]; places[x.place] == 0 {
				places[x.place]++
				l = append(l, x)
			}
		}
		for i := range l {
			wantFirst(t, k, l[i:]...)
		}
	}
}

// TestTooManyOfBoth: more clauses than MaxClauses come ahead of the fuel, and of the facts that they would give; and no limit of an evaluation keeps a clause or a certificate from coming (R7).
func TestTooManyOfBoth(t *testing.T) {
	w := worldOf(t, firstSteps()...)
	wantTold(t, w, doAssert("bob", numbered("many", 0, 1100)+wide), toldN(1111))
	for _, d := range steps(doQuery("bob", "may(X)?", 0), doWatch("bob", "may(X)?"), doNews("bob", 1), doWhy("bob", "may(x)?"), doLoss("bob", "ann"), doProve("bob", "may(x)?", 0), doExport("bob", "may(x).", 0), doAsk("bob", "wide(A, B, C, D)?")) {
		wantRefused(t, w, d, api.ErrMany, 0)
	}
	wantTold(t, w, doImport("bob", 2), sent(0, idOf(certificate("s", "ann", "good(x)."))))
	wantTold(t, w, doAssert("bob", "one."), toldN(1))
	wantTold(t, w, doRetract("bob", numbered("many", 0, 1100)), toldN(1100))
	wantRefused(t, w, doQuery("bob", "may(X)?", 2), api.ErrFacts, 0)
	wantRefused(t, w, doQuery("bob", "may(X)?", 1), api.ErrFuel, 0)
	wantTold(t, w, doExport("bob", "w(1).", 0), sent(5, idOf(certificate("s", "bob", "w(1)."))))
}
