package context_test

import (
	"slices"
	"strings"
	"testing"

	"hearsay/api"
	"hearsay/syntax"
)

// P20.2, P20.3: Assert and Retract; P20.11: Own.

// faulty: texts that are no programs, a fault of every layer that reads them; each fault's place is chapter 5's.
func faulty() map[string]api.Fault {
	out := map[string]api.Fault{
		"p(a). p(b). r(":                 fault(api.ErrSyntax, 14),
		"p(a)":                           fault(api.ErrSyntax, 4),
		"p(a)?":                          fault(api.ErrSyntax, 4),
		").":                             fault(api.ErrSyntax, 0),
		"p(a). q :- .":                   fault(api.ErrSyntax, 11),
		"p(X).":                          fault(api.ErrSafe, 0),
		"p(b). p(a). q(X) :- p(Y).":      fault(api.ErrSafe, 12),
		"p(c). q(X) :- p(X), Y != X.":    fault(api.ErrSafe, 6),
		"p(b). X says p(a) :- X says t.": fault(api.ErrHead, 6),
		"p(b). \"\" says p(a).":          fault(api.ErrBy, 6),
		"p(b). p(\"" + long(65) + "\").": fault(api.ErrTerm, 6),
		"p(b). " + long(33) + ".":        fault(api.ErrName, 6),
		"p(b). p(1,2,3,4,5,6,7,8,9).":    fault(api.ErrArity, 6),
		"p(b). q :- a,a,a,a,a,a,a,a,a.":  fault(api.ErrBody, 6),
		"p(b). a:b":                      fault(api.ErrByte, 7),
		"p(b). p(\"a":                    fault(api.ErrOpen, 8),
		"p(b). p(\"\\q\").":              fault(api.ErrEscape, 9),
		"p(b). p(12ab).":                 fault(api.ErrNumber, 8),
		strings.Repeat(" ", 1048577):     fault(api.ErrTextLong, 0),
		"p(b). q :- " + strings.Repeat("(", 17) + "p(a)" + strings.Repeat(")", 17) + ".": fault(api.ErrDepth, 27),
		"p(b). q :- " + strings.Repeat("(a;b),", 6) + "(a;b).":                           fault(api.ErrAlts, 6),
	}
	return out
}

// TestNoPrograms: refused with the text's fault, by both, and nothing has changed.
func TestNoPrograms(t *testing.T) {
	r := ringOf(t, "s", "ann")
	x := newContext(t, r, "ann")
	asserted(t, x, "p(a). p(b). q(X) :- p(X).")
	for text, want := range faulty() {
		if _, f := syntax.Program(text); f != want {
			t.Fatalf("the fault of %.80q is %v, not %v", text, f, want)
		}
		wantStill(t, text, r, x, func() {
			wantAssert(t, x, text, 0, want)
			wantRetract(t, x, text, 0, want)
		})
	}
}

// TestFaultAtAnyPlace: a text of clauses that are own ones and of others, spoilt at every place in turn.
func TestFaultAtAnyPlace(t *testing.T) {
	const text = "p(a). q(X) :- p(X), X != 7. \"b b\" says p(b). p(c). t :- p(a); p(b)."
	r := ringOf(t, "s", "ann")
	x := newContext(t, r, "ann")
	asserted(t, x, "p(a). p(c).")
	before, refusals := seen(x), 0
	for at := range len(text) + 1 {
		for _, sign := range texts("", ")", "?", "$", "\"", ".") {
			spoilt := text[:at] + sign
			if sign != "" {
				spoilt += text[min(at+1, len(text)):]
			}
			_, want := syntax.Program(spoilt)
			if want == ok {
				continue
			}
			refusals++
			wantAssert(t, x, spoilt, 0, want)
			wantRetract(t, x, spoilt, 0, want)
		}
	}
	if seen(x) != before {
		t.Errorf("P20.13: a text that is refused changes the context: %s", seen(x))
	}
	if refusals < 300 {
		t.Errorf("just %d texts were refused", refusals)
	}
}

// TestAssertCounts: clauses that are named twice, in one text or in two, count once; what is the same but for names of variables is the same.
func TestAssertCounts(t *testing.T) {
	x := contextOf(t, "")
	for _, step := range []struct {
		text string
		want int
	}{
		{"", 0}, {" % nothing", 0},
		{"p(b). p(a). p(b).", 2}, {"p(b). p(a). p(b).", 0}, {"p(c). p(a).", 1},
		{"q(X) :- p(X). q(Y) :- p(Y).", 1}, {"q(Other) :- p(Other).", 0},
		{"t :- p(a); p(b); p(a).", 2}, {"t :- p(b).", 0}, {"t :- p(a), p(b).", 1}, {"t :- p(b), p(a).", 1},
		{"ann says p(a). bob says p(a). p(a).", 2}, {"\"ann\" says p(\"a\").", 0},
		{"p(1). p(\"1\"). p(1).", 2}, {"p. p(a, b).", 2}, {"t :- p(a), 1 < 2. t :- p(a), 1 <= 2.", 2},
	} {
		wantAssert(t, x, step.text, step.want, ok)
	}
	wantOwn(t, x,
		"p.", "p(1).", "p(\"1\").", "p(a).", "p(b).", "p(c).", "ann says p(a).", "bob says p(a).", "p(a, b).", "q(V0) :- p(V0).",
		"t :- p(a).", "t :- p(a), 1 < 2.", "t :- p(a), 1 <= 2.", "t :- p(b).", "t :- p(a), p(b).", "t :- p(b), p(a).")
}

// TestRetract: all or none.
func TestRetract(t *testing.T) {
	r := ringOf(t, "s", "ann")
	x := newContext(t, r, "ann")
	asserted(t, x, "p(a). p(b). p(c). q(X) :- p(X). ann says p(a). t :- p(a); p(b).")
	for _, text := range texts("p(d).", "p(a). p(d).", "p(d). p(a).", "p(a). p(b). p. p(c).", "q(X) :- p(X), p(X).", "q(X) :- p(X), 1 < 2.", "q(a) :- p(a).", "bob says p(a).", "t :- p(a); p(c).", "t.", "q(a).") {
		wantStill(t, "Retract("+text+")", r, x, func() { wantRetract(t, x, text, 0, fault(api.ErrNotOwn, 0)) })
	}
	wantStill(t, "Retract of nothing", r, x, func() { wantRetract(t, x, "", 0, ok) })
	wantRetract(t, x, "p(b). p(b). p(b).", 1, ok)
	wantRetract(t, x, "p(b).", 0, fault(api.ErrNotOwn, 0))
	wantOwn(t, x, "p(a).", "p(c).", "ann says p(a).", "q(V0) :- p(V0).", "t :- p(a).", "t :- p(b).")
	wantRetract(t, x, "q(Z) :- p(Z). t :- p(b); p(a). ann says p(a).", 4, ok)
	wantOwn(t, x, "p(a).", "p(c).")
	wantRetract(t, x, "p(c). p(a).", 2, ok)
	wantOwn(t, x)
	wantClauses(t, x)
	wantAssert(t, x, "p(a).", 1, ok)
	wantOwn(t, x, "p(a).")
}

// TestQuotesAreNotOwn: what a certificate says can't be retracted.
func TestQuotesAreNotOwn(t *testing.T) {
	r := ringOf(t, "s", "ann", "bob")
	x := newContext(t, r, "ann")
	imported(t, x, issued(t, r, "bob", "p(a)."))
	wantRetract(t, x, "bob says p(a).", 0, fault(api.ErrNotOwn, 0))
	wantRetract(t, x, "p(a).", 0, fault(api.ErrNotOwn, 0))
	wantOwn(t, x)
	wantClauses(t, x, "bob says p(a).")
	wantAssert(t, x, "bob says p(a).", 1, ok)
	wantOwn(t, x, "bob says p(a).")
	wantClauses(t, x, "bob says p(a).")
	wantRetract(t, x, "bob says p(a).", 1, ok)
	wantClauses(t, x, "bob says p(a).")
}

// TestOwnOfAllOrders: whatever order the clauses come in, Own tells them in order.
func TestOwnOfAllOrders(t *testing.T) {
	c := newChosen(20)
	lines := texts("p(2).", "p(10).", "p(-1).", "p(\"\").", "p(a).", "p(\"A\").", "p(aa).", "p(b).", "ann says p(a).", "p.", "p(a, a).", "o :- p.", "q(X) :- p(X).", "q(X) :- p(X), X < 3.", "q(X) :- p(X), X != 3.", "q(X) :- W says p(X).", "q(X) :- p(X), p(X).", "q(X) :- o, p(X).")
	want := told(programOf(t, "o :- p. p. p(-1). p(2). p(10). p(\"\"). p(\"A\"). p(a). p(aa). p(b). ann says p(a). p(a, a). q(X) :- p(X). q(X) :- p(X), X != 3. q(X) :- p(X), X < 3. q(X) :- W says p(X). q(X) :- o, p(X). q(X) :- p(X), p(X)."))
	for range 20 {
		x := contextOf(t, "")
		c.Shuffle(len(lines), func(i, k int) { lines[i], lines[k] = lines[k], lines[i] })
		cut := c.Intn(len(lines))
		asserted(t, x, strings.Join(lines[:cut], " "))
		asserted(t, x, strings.Join(lines[cut:], "\n"))
		wantOwn(t, x, want...)
		wantClauses(t, x, want...)
	}
}

// TestLongProgram: of as many bytes as a program may have, all clauses come and go again.
func TestLongProgram(t *testing.T) {
	x := contextOf(t, "")
	text := numbered("p", 0, 60000)
	text += strings.Repeat(" ", 1048576-len(text))
	wantAssert(t, x, text+" ", 0, fault(api.ErrTextLong, 0))
	wantAssert(t, x, text, 60000, ok)
	wantAssert(t, x, text, 0, ok)
	if own := x.Own(); len(own) != 60000 || !slices.IsSortedFunc(own, compareClauses) {
		t.Errorf("P20.11: %d own clauses", len(own))
	}
	wantNoQuery(t, x, "p(X)?", 9, fault(api.ErrMany, 0))
	wantRetract(t, x, text+" ", 0, fault(api.ErrTextLong, 0))
	wantRetract(t, x, numbered("p", 0, 59999), 59999, ok)
	wantQuery(t, x, "p(X)?", 9, 2, "p(59999)")
}
