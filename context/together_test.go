package context_test

import (
	"sync"
	"testing"

	"hearsay/api"
	"hearsay/context"
	"hearsay/keys"
)

// R4: calls that change nothing may come from several goroutines at one time, the first ones behind a change too.

// together: f of 0 to n - 1, all begun at one time, each by a goroutine of its own.
func together(n int, f func(int)) {
	var ready, all sync.WaitGroup
	ready.Add(n)
	for i := range n {
		all.Go(func() {
			ready.Done()
			ready.Wait()
			f(i)
		})
	}
	all.Wait()
}

// fresh: a context in which nothing was asked yet.
func fresh(t *testing.T, r *keys.Ring, b []byte) *context.Context {
	t.Helper()
	x := newContext(t, r, "ann")
	asserted(t, x, "p(a). q(X) :- p(X). ok(X) :- q(X), W says p(X). p(Y) :- p(X), e(X, Y). e(a, b). e(b, c). e(c, d).")
	imported(t, x, b)
	return x
}

func TestAskedTogether(t *testing.T) {
	r := ringOf(t, "s", "ann", "bob")
	b := issued(t, r, "bob", "p(a).")
	alone := fresh(t, r, b)
	want := seen(alone)
	for round := range 60 {
		x := fresh(t, r, b)
		together(8, func(i int) {
			for k := range 12 {
				fuel := (i*5 + k*7 + round) % 12
				reply, f := x.Query("q(X)?", fuel)
				if fuel < 6 && f != fault(api.ErrFuel, 0) || fuel >= 6 && (f != ok || reply.Rounds != 6 || len(reply.Answers) != 4) {
					t.Errorf("R4: Query with fuel %d is %v, %v", fuel, reply, f)
				}
				if k%4 == i%4 {
					exported(t, x, "p(a).")
					x.Export("q(b).", fuel)
				}
			}
			if i%2 == 0 && seen(x) != want {
				t.Error("R4: a context that is asked by several answers otherwise")
			}
		})
		if seen(x) != want {
			t.Error("R4: a context that was asked by several answers otherwise")
		}
	}
}

// TestContextsTogether: contexts of one ring, each changed by a goroutine of its own.
func TestContextsTogether(t *testing.T) {
	r := ringOf(t, "s", "ann", "bob")
	b := issued(t, r, "bob", "p(a).")
	want := seen(fresh(t, r, b))
	together(8, func(int) {
		for range 10 {
			if x := fresh(t, r, b); seen(x) != want {
				t.Error("R4: contexts of one ring disturb each other")
			}
		}
	})
}
