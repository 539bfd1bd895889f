package context

import (
	"errors"
	"slices"
	"sync"
	"testing"

	"hearsay/api"
	"hearsay/keys"
)

// What no call shows: that the model is made once between two changes, what faults are as error values, and certificates of one id.

func innerContext(t *testing.T, program string) *Context {
	t.Helper()
	r := keys.New([]byte("s"))
	r.Enroll("ann")
	x, err := New(r, "ann")
	if _, f := x.Assert(program); err != api.OK || f.Err != api.OK {
		t.Fatal(err, f)
	}
	return x
}

// models: the attempts so far, and how many of them came to a model.
func models(x *Context) (attempts, made int) {
	for a := x.tries; a != nil; a = a.next {
		if a.fuel == 0 && a.err == api.OK && a.model.Rounds == 0 {
			break // nobody asked for it yet
		}
		attempts++
		if a.err == api.OK {
			made++
		}
	}
	return attempts, made
}

func wantModels(t *testing.T, x *Context, attempts, made int) {
	t.Helper()
	if n, m := models(x); n != attempts || m != made {
		t.Errorf("Ways: %d attempts with %d models, want %d with %d", n, m, attempts, made)
	}
}

// askAll: every call that evaluates, with some fuels; each of them is enough.
func askAll(x *Context) {
	for _, fuel := range []int{9, 3, 100, 5001} {
		x.Query("q(X)?", fuel)
		x.Export("q(a).", fuel)
	}
	x.Watch("q(X)?")
	x.News(1)
}

// TestOnce: between two changes there is one model, whoever asks for it, and how often.
func TestOnce(t *testing.T) {
	x := innerContext(t, "p(a). q(X) :- p(X).")
	wantModels(t, x, 0, 0)
	askAll(x)
	wantModels(t, x, 1, 1)
	first := &x.tries.model.Facts[0]
	askAll(x)
	x.Query("q(X)?", 1) // less than it has rounds
	x.Assert("p(a). q(Y) :- p(Y).")
	x.Assert("p(")
	x.Retract("p(b).")
	x.Retract("")
	x.Import(nil)
	x.Forget(api.Digest{})
	x.Play(api.Record{})
	askAll(x)
	wantModels(t, x, 1, 1)
	if first != &x.tries.model.Facts[0] {
		t.Error("Ways: without a change the model is made again")
	}
	b, _ := x.Export("p(a).", 0)
	for _, change := range []func(){
		func() { x.Assert("p(b).") },
		func() { x.Retract("p(b).") },
		func() { x.Import(b) },
		func() { x.Forget(x.taken[string(b)].id) },
		func() { x.Play(api.Record{Kind: api.RecTake, Bytes: b}) },
	} {
		change()
		wantModels(t, x, 0, 0)
		askAll(x)
		wantModels(t, x, 1, 1)
	}
}

// TestFuelsOneByOne: an attempt that used up its fuel is made no second time, nor is one with less.
func TestFuelsOneByOne(t *testing.T) {
	x := innerContext(t, "p(a). q(X) :- p(X). ok(X) :- q(X).")
	for _, step := range []struct{ fuel, attempts, made int }{{1, 1, 0}, {1, 1, 0}, {0, 1, 0}, {-7, 1, 0}, {2, 2, 0}, {1, 2, 0}, {2, 2, 0}, {4, 3, 1}, {9, 3, 1}, {3, 3, 1}, {1, 3, 1}, {5001, 3, 1}} {
		x.Query("ok(X)?", step.fuel)
		wantModels(t, x, step.attempts, step.made)
	}
}

// TestOnceTogether: also where several ask at one time.
func TestOnceTogether(t *testing.T) {
	for range 100 {
		x := innerContext(t, "p(a). q(X) :- p(X).")
		facts := make([]*api.Known, 8)
		var all sync.WaitGroup
		for i := range facts {
			all.Go(func() {
				x.Query("q(X)?", i%3)
				m, _ := x.model(3 + i)
				facts[i] = &m.Facts[0]
			})
		}
		all.Wait()
		if len(slices.Compact(facts)) != 1 {
			t.Error("Ways: several models were made")
		}
	}
}

// TestErrorValues: a fault is an error value that keeps its number and its place, wrapped or not; no fault is no error.
func TestErrorValues(t *testing.T) {
	x := innerContext(t, "p(a).")
	_, err := x.assert("p(a). r(")
	var r refusal
	if !errors.As(err, &r) || r.Err != api.ErrSyntax || r.At != 8 || err.Error() == "" {
		t.Errorf("Ways: the fault comes up as %v", err)
	}
	if f := faultOf(errors.Join(errors.New("behind another"), err)); f != (api.Fault{Err: api.ErrSyntax, At: 8}) {
		t.Errorf("Ways: the fault within another is %v", f)
	}
	if refused(api.OK) != nil || refusedAt(api.Fault{}) != nil || faultOf(nil) != (api.Fault{}) {
		t.Error("Ways: no fault is an error")
	}
}

// TestOneId: certificates of one id, which no test can make by bytes: they are told in the order of their bytes, and go together.
func TestOneId(t *testing.T) {
	id, other := api.Digest{5}, api.Digest{4, 9}
	for range 20 {
		x := innerContext(t, "")
		x.taken = map[string]taking{"b": {id: id}, "a": {id: id}, "ab": {id: id}, "c": {id: other}}
		var told []string
		for _, b := range x.Certs() {
			told = append(told, string(b))
		}
		if !slices.Equal(told, []string{"c", "a", "ab", "b"}) {
			t.Errorf("P20.11: the certificates are %q", told)
		}
		if x.Forget(id) != api.OK || x.Forget(id) != api.ErrNoCert || len(x.Certs()) != 1 {
			t.Errorf("P20.5: %d certificates are left", len(x.Certs()))
		}
	}
}
