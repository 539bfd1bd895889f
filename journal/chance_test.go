package journal_test

import (
	"slices"
	"testing"

	"hearsay/api"
	"hearsay/cert"
	"hearsay/context"
	"hearsay/journal"
	"hearsay/keys"
)

// Journals by chance: contexts that change, each beside its journal; made again out of any cut of it, they are as they were (T11).

// kept: a context, its journal, and what was seen of the context behind each change.
type kept struct {
	t    *testing.T
	r    *keys.Ring
	x    *context.Context
	j    *journal.Log
	past []string
	l    []api.Record
}

func keep(t *testing.T, r *keys.Ring, name string) *kept {
	t.Helper()
	x, err := context.New(r, name)
	if err != api.OK {
		t.Fatalf("the context of %q: %d", name, err)
	}
	return &kept{t: t, r: r, x: x, j: newLog(t, name), past: texts(seenIn(x))}
}

// changed: the change is noted.
func (k *kept) changed(r api.Record) {
	k.t.Helper()
	noted(k.t, k.j, r)
	k.l, k.past = append(k.l, r), append(k.past, seenIn(k.x))
}

func (k *kept) assert(text string) {
	k.t.Helper()
	if n, _ := k.x.Assert(text); n == 1 {
		k.changed(assertion(clauseOf(k.t, text)))
	}
}

func (k *kept) retract(text string) {
	k.t.Helper()
	if n, _ := k.x.Retract(text); n == 1 {
		k.changed(retraction(clauseOf(k.t, text)))
	}
}

func (k *kept) take(b string) {
	k.t.Helper()
	if came, err := k.x.Import([]byte(b)); came && err == api.OK {
		k.changed(taking(b))
	}
}

func (k *kept) forget(id api.Digest) {
	k.t.Helper()
	if k.x.Forget(id) == api.OK {
		k.changed(forgetting(id))
	}
}

// step: mostly one that changes something.
func (k *kept) step(c *chosen, certs []string) {
	k.t.Helper()
	programs := texts("ok(a).", "ok(b).", "ok(X) :- W says p(X).", "ok(X) :- bob says p(X), X != b.", "bob says p(z).", "ok(X) :- ok(X), t.", "t.")
	switch c.Intn(5) {
	case 0, 1:
		k.assert(one(c, programs...))
	case 2:
		k.retract(one(c, programs...))
	case 3:
		k.take(one(c, certs...))
	case 4:
		k.forget(cert.Id([]byte(one(c, certs...))))
	}
}

// wantLost: the journal cut to n bytes makes the context as it was behind the last change that is whole there; and its journal goes on.
func (k *kept) wantLost(n int) {
	k.t.Helper()
	ends := endsOf(k.x.Name(), k.l)
	j, told, err := journal.Open(k.j.Bytes()[:n])
	whole := wholeOnes(ends, n)
	if whole < 0 {
		if j != nil || told != 0 || err != api.ErrLog {
			k.t.Errorf("P22.7: cut to %d bytes: %d, %d", n, told, err)
		}
		return
	}
	if err != api.OK || told != ends[whole] {
		k.t.Fatalf("P22.7: cut to %d bytes: %d, %d, want %d", n, told, err, ends[whole])
	}
	x, err := j.Again(k.r)
	if err != api.OK || seenIn(x) != k.past[whole] {
		k.t.Errorf("P22.5, T11: cut to %d bytes, made again behind %d changes: %d", n, whole, err)
	}
	noted(k.t, j, k.l[whole:]...)
	if string(j.Bytes()) != string(k.j.Bytes()) || j.Head() != k.j.Head() {
		k.t.Errorf("P22.6: cut to %d bytes, it goes on otherwise", n)
	}
}

// TestLives: several contexts of one ring, each with a journal.
func TestLives(t *testing.T) {
	changes := 0
	for seed := range int64(25) {
		c := newChosen(seed)
		r := ringOf(t, "s", "ann", "bob", "carl")
		var certs []string
		for _, u := range texts("ann", "bob", "carl") {
			for _, text := range texts("p(a).", "p(b).", "p(X) :- q(X), bob says p(X).", "q(b).") {
				certs = append(certs, issued(t, r, u, text))
			}
		}
		certs = append(certs, turned(certs[0], 3, 1), turned(certs[1], len(certs[1])-1, 1)) // these are refused
		lives := []*kept{keep(t, r, "ann"), keep(t, r, "bob"), keep(t, r, "carl")}
		for range 90 {
			one(c, lives...).step(c, certs)
		}
		for _, k := range lives {
			wantLog(t, k.j, k.x.Name(), k.l)
			wantAgain(t, k.j, r)
			for _, end := range endsOf(k.x.Name(), k.l) {
				k.wantLost(end)
			}
			for range 15 {
				k.wantLost(c.Intn(len(k.j.Bytes()) + 1))
			}
			changes += len(k.l)
		}
		if t.Failed() {
			t.Fatalf("the lives of seed %d", seed)
		}
	}
	if changes < 700 {
		t.Errorf("too much alike: %d changes", changes)
	}
}

// TestAnyHistories: records of all sorts in any order, most of which no context plays: as Play has it.
func TestAnyHistories(t *testing.T) {
	told := map[api.Errno]int{}
	for seed := range int64(300) {
		c := newChosen(1000 + seed)
		y := newLife(t)
		pool := append(slices.Clone(y.l), refusedOnes(t, y)...)
		l := some(c, pool, c.Intn(5))
		if c.Intn(2) == 0 {
			l = append(slices.Clone(y.l[:c.Intn(len(y.l)+1)]), some(c, pool, c.Intn(2))...)
		}
		name := one(c, "ann", "bob", "zoe")
		j := newLog(t, name, l...)
		wantLog(t, j, name, l)
		wantBack(t, j)
		if name == "zoe" {
			wantNotAgain(t, j, y.ring, api.ErrUnknown)
			told[api.ErrUnknown]++
			continue
		}
		if _, all := played(t, y.ring, name, l); all {
			wantAgain(t, j, y.ring)
			told[api.OK]++
			continue
		}
		wantNotAgain(t, j, y.ring, api.ErrReplay)
		told[api.ErrReplay]++
	}
	for _, err := range []api.Errno{api.OK, api.ErrUnknown, api.ErrReplay} {
		if told[err] < 40 {
			t.Errorf("too much alike: %v", told)
		}
	}
}

// TestNotesByChance: right records and wrong ones, several journals at a time, looked at behind each.
func TestNotesByChance(t *testing.T) {
	right, wrong := rightRecords(t), wrongRecords(t)
	for seed := range int64(20) {
		c := newChosen(2000 + seed)
		all := map[string][]api.Record{}
		logs := map[string]*journal.Log{}
		for range 60 {
			name := one(c, principals()[:6]...)
			if logs[name] == nil {
				logs[name] = newLog(t, name)
			}
			if c.Intn(3) == 0 {
				wantNotNoted(t, logs[name], one(c, wrong...))
			} else {
				r := one(c, right...)
				noted(t, logs[name], r)
				all[name] = append(all[name], r)
			}
			for other, j := range logs {
				if other == name || c.Intn(4) == 0 {
					wantLog(t, j, other, all[other])
				}
			}
			if c.Intn(5) == 0 {
				logs[name], _ = opened(t, string(logs[name].Bytes())+one(c, "", "\x00", "\x00\x00\x00\x08\x01"))
			}
		}
	}
}
