package context_test

import (
	"testing"

	"hearsay/api"
	"hearsay/cert"
)

// P20.9, P20.10, P20.16: Watch and News.

// TestNumbersOfWatches: from 1 on, whatever is refused between; 64 are given, and then none for ever.
func TestNumbersOfWatches(t *testing.T) {
	x := contextOf(t, "p(a).")
	for n := 1; n <= 64; n++ {
		wantNoNews(t, x, n, api.ErrWatch)
		wantWatch(t, x, "p(X).", 0, fault(api.ErrSyntax, 4))
		wantWatch(t, x, texts("p(X)?", "q(X)?")[n%2], n, ok)
		wantNews(t, x, n, "", "")
	}
	for range 3 {
		wantWatch(t, x, "p(X)?", 0, fault(api.ErrWatch, 0))
		wantWatch(t, x, "p(X)", 0, fault(api.ErrSyntax, 4))
	}
	asserted(t, x, "q(b).")
	for n := 1; n <= 64; n++ {
		wantNews(t, x, n, texts("", "q(b)")[n%2], "")
	}
	for _, w := range []int{leastInt, -64, -1, 0, 65, 66, 1000, greatestInt} {
		wantNoNews(t, x, w, api.ErrWatch)
	}
	wantWatch(t, x, "p(X)?", 0, fault(api.ErrWatch, 0))
}

// TestWatchRefused: Whole's error comes behind the text's fault and ahead of ErrWatch; what is refused takes no number.
func TestWatchRefused(t *testing.T) {
	x := contextOf(t, numbered("p", 0, 1001))
	wantWatch(t, x, "p(X)?", 0, fault(api.ErrMany, 0))
	wantWatch(t, x, "p(X", 0, fault(api.ErrSyntax, 3))
	wantNoNews(t, x, 1, api.ErrWatch)
	retracted(t, x, "p(0).")
	wantWatch(t, x, "p(1)?", 1, ok)
	for n := 2; n <= 64; n++ {
		wantWatch(t, x, "p(0)?", n, ok)
	}
	wantWatch(t, x, "p(0)?", 0, fault(api.ErrWatch, 0))
	asserted(t, x, "p(0).")
	wantWatch(t, x, "p(0)?", 0, fault(api.ErrMany, 0))
	for w := 1; w <= 64; w++ {
		wantNoNews(t, x, w, api.ErrMany)
	}
	wantNoNews(t, x, 65, api.ErrWatch)
	retracted(t, x, "p(1).")
	wantNews(t, x, 1, "", "p(1)")
	wantNews(t, x, 64, "p(0)", "")
	wantWatch(t, x, "p(0)?", 0, fault(api.ErrWatch, 0))
}

// TestMarkStays: where News is refused, by either limit, the mark is what it was.
func TestMarkStays(t *testing.T) {
	const wide = "w(A, B, C, D) :- n(A), n(B), n(C), n(D)."
	x := contextOf(t, "p(a). p(b).")
	wantWatch(t, x, "p(X)?", 1, ok)
	asserted(t, x, "p(c). "+numbered("n", 0, 10))
	retracted(t, x, "p(a).")
	asserted(t, x, wide)
	for range 3 {
		wantNoNews(t, x, 1, api.ErrFacts)
	}
	asserted(t, x, numbered("m", 0, 1000))
	wantNoNews(t, x, 1, api.ErrMany)
	asserted(t, x, "p(d).")
	wantNoNews(t, x, 1, api.ErrMany)
	retracted(t, x, numbered("m", 0, 1000))
	wantNoNews(t, x, 1, api.ErrFacts)
	retracted(t, x, wide)
	wantNews(t, x, 1, "p(c) p(d)", "p(a)")
	wantNews(t, x, 1, "", "")
}

// TestMarksAreEachWatchsOwn: what one tells isn't told to the other.
func TestMarksAreEachWatchsOwn(t *testing.T) {
	x := contextOf(t, "p(a).")
	wantWatch(t, x, "p(X)?", 1, ok)
	asserted(t, x, "p(b).")
	wantWatch(t, x, "p(X)?", 2, ok)
	asserted(t, x, "p(c).")
	wantNews(t, x, 2, "p(c)", "")
	wantNews(t, x, 2, "", "")
	retracted(t, x, "p(a).")
	wantNews(t, x, 1, "p(b) p(c)", "p(a)")
	wantNews(t, x, 2, "", "p(a)")
	wantNews(t, x, 1, "", "")
}

// TestBackAgain: what came and went, or went and came, between two News isn't told.
func TestBackAgain(t *testing.T) {
	r := ringOf(t, "s", "ann", "bob")
	x := newContext(t, r, "ann")
	b := issued(t, r, "bob", "p(b).")
	asserted(t, x, "p(a). p(X) :- bob says p(X).")
	wantWatch(t, x, "p(X)?", 1, ok)
	imported(t, x, b)
	wantForget(t, x, cert.Id(b), api.OK)
	retracted(t, x, "p(a).")
	asserted(t, x, "p(a).")
	wantNews(t, x, 1, "", "")
	imported(t, x, b)
	retracted(t, x, "p(a).")
	wantNews(t, x, 1, "p(b)", "p(a)")
	asserted(t, x, "p(b).")
	wantForget(t, x, cert.Id(b), api.OK)
	wantNews(t, x, 1, "", "")
}

// TestNewsInOrder: what came and what went are each in order.
func TestNewsInOrder(t *testing.T) {
	x := contextOf(t, "p(z). p(7). p(b). p(-1).")
	wantWatch(t, x, "p(X)?", 1, ok)
	wantWatch(t, x, "W says p(X)?", 2, ok)
	asserted(t, x, "p(\"\"). p(10). p(9). p(a). p(\"A\"). bob says p(1). ann says p(2).")
	retracted(t, x, "p(z). p(7). p(b). p(-1).")
	wantNews(t, x, 1, "p(9) p(10) p(\"\") p(\"A\") p(a)", "p(-1) p(7) p(b) p(z)")
	wantNews(t, x, 2, "ann says p(2) bob says p(1)", "")
}

// TestQueriesLeaveMarks: Query, Ask, Export and the looks change no mark.
func TestQueriesLeaveMarks(t *testing.T) {
	x := contextOf(t, "p(a).")
	wantWatch(t, x, "p(X)?", 1, ok)
	asserted(t, x, "p(b).")
	seen(x)
	exported(t, x, "p(b).")
	wantAssert(t, x, "p(", 0, fault(api.ErrSyntax, 2))
	wantRetract(t, x, "p(c).", 0, fault(api.ErrNotOwn, 0))
	wantForget(t, x, never, api.ErrNoCert)
	wantNoNews(t, x, 2, api.ErrWatch)
	wantPlay(t, x, api.Record{}, api.ErrReplay)
	wantNews(t, x, 1, "p(b)", "")
}
