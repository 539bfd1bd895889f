package keys_test

import (
	"fmt"
	"slices"
	"strconv"
	"sync"
	"testing"

	"hearsay/api"
	"hearsay/keys"
)

// Several goroutines call one ring at the same time: it answers, and is left, as if the calls had come one after the other.

// together: f of 0 to n - 1, all begun at one time, each by a goroutine of its own.
func together(n int, f func(int)) {
	var ready, all sync.WaitGroup
	ready.Add(n)
	for i := range n {
		all.Go(func() {
			ready.Done()
			ready.Wait()
			f(i)
		})
	}
	all.Wait()
}

// fits: whether some order of the calls, each row's in its own order, has these answers and leaves the ring so.
func fits(rows [][]call, secret string, left func(*plainRing) bool) bool {
	// The calls that are done and their answers say how the ring is, in whatever order they came: so a place that leads nowhere once never leads anywhere.
	dead := map[string]bool{}
	var goOn func(p *plainRing, done []int) bool
	goOn = func(p *plainRing, done []int) bool {
		place, ended := fmt.Sprint(done), true
		if dead[place] {
			return false
		}
		for i, row := range rows {
			if done[i] == len(row) {
				continue
			}
			ended = false
			next, further := p.copied(), slices.Clone(done)
			further[i]++
			if x := row[done[i]]; x.ofPlain(next).same(x) && goOn(next, further) {
				return true
			}
		}
		dead[place] = !ended || !left(p)
		return !dead[place]
	}
	return goOn(&plainRing{secret: secret}, make([]int, len(rows)))
}

// TestSomeOrder: of short rows of calls by chance.
func TestSomeOrder(t *testing.T) {
	names, digests := texts("alice", "bob", "carl", ""), []api.Digest{sum("d"), {}}
	for seed := range int64(1500) {
		c := newChosen(seed)
		r := keys.New([]byte("s"))
		rows := make([][]call, 4)
		for i := range rows {
			for range 5 {
				rows[i] = append(rows[i], c.call("s", names, digests))
			}
		}
		together(len(rows), func(i int) {
			for k, x := range rows[i] {
				rows[i][k] = x.of(r)
			}
		})
		if !fits(rows, "s", func(p *plainRing) bool { return left(r, p, names) }) {
			t.Errorf("no order of the calls gives these answers: %v", rows)
		}
	}
}

// left: whether the ring is as the plain one.
func left(r *keys.Ring, p *plainRing, names []string) bool {
	return slices.Equal(r.Names(), p.namesInOrder()) && !slices.ContainsFunc(names, func(name string) bool {
		return !slices.Equal(r.Signed(name), p.signed(name))
	})
}

// TestFitsTells: that the test's own search refuses answers that no order gives.
func TestFitsTells(t *testing.T) {
	enroll, has := call{kind: callEnroll, name: "a"}, call{kind: callHas, name: "a", yes: true}
	again := call{kind: callEnroll, name: "a", err: api.ErrEnrolled}
	any := func(*plainRing) bool { return true }
	for _, x := range []struct {
		rows [][]call
		want bool
	}{
		{nil, true},
		{[][]call{{enroll}, {has}}, true},
		{[][]call{{has}, {again}, {enroll}}, true},
		{[][]call{{has}}, false},
		{[][]call{{has, enroll}}, false},
		{[][]call{{enroll}, {enroll}}, false},
		{[][]call{{again}, {again}}, false},
	} {
		if got := fits(x.rows, "s", any); got != x.want {
			t.Errorf("%v: %t", x.rows, got)
		}
	}
	if fits([][]call{{enroll}}, "s", func(p *plainRing) bool { return !p.has("a") }) {
		t.Error("what is left doesn't count")
	}
}

// TestEnrolledByOne: of all who enroll one name, just one is told OK.
func TestEnrolledByOne(t *testing.T) {
	for range 200 {
		r := keys.New(nil)
		errs := make([]api.Errno, 16)
		together(len(errs), func(i int) { errs[i] = r.Enroll("alice") })
		slices.Sort(errs)
		if errs[0] != api.OK || slices.ContainsFunc(errs[1:], func(e api.Errno) bool { return e != api.ErrEnrolled }) {
			t.Errorf("P18.2: %v", errs)
		}
		wantNames(t, r, "alice")
	}
}

// TestFilledTogether: 300 names, each by several: 256 are told OK, to one each; the others are told ErrRing.
func TestFilledTogether(t *testing.T) {
	names := numberedNames(300)
	for seed := range int64(10) {
		r := keys.New(nil)
		orders := make([][]int, 8)
		errs := make([][]api.Errno, len(orders))
		for i := range orders {
			orders[i] = newChosen(seed*100 + int64(i)).Perm(len(names))
			errs[i] = make([]api.Errno, len(names))
		}
		together(len(orders), func(i int) {
			for _, k := range orders[i] {
				errs[i][k] = r.Enroll(names[k])
			}
		})
		wantShared(t, r, names, errs)
	}
}

// wantShared: each name was told OK once and ErrEnrolled to all others, or ErrRing to all.
func wantShared(t *testing.T, r *keys.Ring, names []string, errs [][]api.Errno) {
	t.Helper()
	var enrolled []string
	for k, name := range names {
		told := map[api.Errno]int{}
		for _, row := range errs {
			told[row[k]]++
		}
		switch {
		case told[api.OK] == 1 && told[api.ErrEnrolled] == len(errs)-1:
			enrolled = append(enrolled, name)
		case told[api.ErrRing] != len(errs):
			t.Errorf("P18.2: %s: %v", name, told)
		}
	}
	if len(enrolled) != 256 {
		t.Errorf("P18.2: %d are enrolled", len(enrolled))
	}
	slices.Sort(enrolled)
	wantNames(t, r, enrolled...)
}

// TestSignedTogether: nothing that was signed is lost; what one is told once stays so.
func TestSignedTogether(t *testing.T) {
	r := keys.New([]byte("s"))
	const workers, each = 8, 60
	together(workers, func(i int) {
		own, others := "p"+strconv.Itoa(i), "q"+strconv.Itoa(i%2)
		r.Enroll(own)
		r.Enroll(others)
		before := 0
		for k := range each {
			for _, name := range texts(own, others) {
				d := sum(name + strconv.Itoa(k))
				if s, err := r.Sign(name, d); err != api.OK || s != sealOf("s", name, d) || !r.Verify(name, d, s) {
					t.Errorf("P18.4, P18.5: %s, %d: %x, %d", name, k, s, err)
				}
			}
			if l := r.Signed(own); len(l) != k+1 || !slices.IsSortedFunc(l, compare) {
				t.Errorf("P18.6: %s has signed %d, want %d", own, len(l), k+1)
			}
			l := r.Names()
			if len(l) < before || !slices.IsSorted(l) || !slices.Contains(l, own) || !r.Has(others) {
				t.Errorf("P18.3: %q", l)
			}
			before = len(l)
		}
	})
	wantNames(t, r, "p0", "p1", "p2", "p3", "p4", "p5", "p6", "p7", "q0", "q1")
	for _, name := range r.Names() {
		if got := r.Signed(name); len(got) != each {
			t.Errorf("P18.6: %s has signed %d, want %d", name, len(got), each)
		}
	}
}

func compare(x, y api.Digest) int { return slices.Compare(x[:], y[:]) }

// TestRingsTogether: each with its own goroutines.
func TestRingsTogether(t *testing.T) {
	rings := []*keys.Ring{keys.New([]byte("s")), keys.New([]byte("s")), keys.New([]byte("t"))}
	together(9, func(i int) {
		r, name := rings[i%3], "p"+strconv.Itoa(i)
		r.Enroll(name)
		for k := range 40 {
			r.Sign(name, sum(strconv.Itoa(k)))
		}
	})
	for i, r := range rings {
		wantNames(t, r, "p"+strconv.Itoa(i), "p"+strconv.Itoa(i+3), "p"+strconv.Itoa(i+6))
		for k := range 9 {
			if got, want := len(r.Signed("p"+strconv.Itoa(k))), 40*count(k%3 == i); got != want {
				t.Errorf("P18.7: %d digests of p%d on ring %d, want %d", got, k, i, want)
			}
		}
	}
}
