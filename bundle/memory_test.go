package bundle_test

import (
	"fmt"
	"slices"
	"strconv"
	"sync"
	"testing"

	"hearsay/api"
	"hearsay/bundle"
	"hearsay/keys"
)

// P21.9, R3, R4.

// room: a list with its spare room, that can be filled with a mark, and asked for it.
type room struct {
	fill  func(mark int)
	holds func(mark int) bool
}

func roomOf[T any](l []T, sign func(mark int) T, same func(a, b T) bool) room {
	l = l[:cap(l)]
	return room{
		func(mark int) {
			for i := range l {
				l[i] = sign(mark)
			}
		},
		func(mark int) bool {
			return !slices.ContainsFunc(l, func(x T) bool { return !same(x, sign(mark)) })
		},
	}
}

func equal[T comparable](a, b T) bool { return a == b }

func markedByte(mark int) byte         { return byte(mark ^ mark>>8) }
func markedBytes(mark int) []byte      { return make([]byte, mark%1000) }
func markedAtom(mark int) api.Atom     { return atom(strconv.Itoa(mark)) }
func markedTest(mark int) api.Test     { return test(mark, none, none) }
func markedClause(mark int) api.Clause { return rule(markedAtom(mark)) }
func markedStep(mark int) api.Step     { return step(mark, nil) }
func markedInt(mark int) int           { return mark }

func byteRoom(b []byte) room     { return roomOf(b, markedByte, equal) }
func termRoom(l []api.Term) room { return roomOf(l, num, equal) }

func atomRooms(l []api.Atom) []room {
	out := []room{roomOf(l, markedAtom, sameAtom)}
	for _, a := range l[:cap(l)] {
		out = append(out, termRoom(a.Args))
	}
	return out
}

func clauseRooms(cs []api.Clause) []room {
	out := []room{roomOf(cs, markedClause, sameClause)}
	for _, c := range cs[:cap(cs)] {
		out = append(out, termRoom(c.Head.Args), roomOf(c.Tests, markedTest, equal))
		out = append(out, atomRooms(c.Body)...)
	}
	return out
}

func proofRooms(p api.Proof) []room {
	out := append(clauseRooms(p.Rules), roomOf(p.Steps, markedStep, sameStep))
	for _, s := range p.Steps[:cap(p.Steps)] {
		out = append(out, termRoom(s.Vals), roomOf(s.Uses, markedInt, equal))
	}
	return out
}

func certRooms(certs [][]byte) []room {
	out := []room{roomOf(certs, markedBytes, slices.Equal)}
	for _, b := range certs[:cap(certs)] {
		out = append(out, byteRoom(b))
	}
	return out
}

// wantApart: no two of the rooms share memory. All are written over.
func wantApart(t *testing.T, what string, rooms []room) {
	t.Helper()
	for i, r := range rooms {
		r.fill(i)
	}
	for i, r := range rooms {
		if !r.holds(i) {
			t.Errorf("R3: %s: two lists share memory", what)
			return
		}
	}
}

// spared: a copy of l with spare room behind it that isn't zero.
func spared[T any](l []T, behind ...T) []T { return append(slices.Clone(l), behind...)[:len(l)] }

// sparedAtom, and those below it: a copy in which every list has spare room.
func sparedAtom(a api.Atom) api.Atom {
	return says(a.By, a.Name, spared(a.Args, num(71), v(3), txt("spare"))...)
}

func sparedClauses(cs []api.Clause) []api.Clause {
	out := spared(cs, rule(atom("spare")), rule(atom("may", v(0))))
	for i, c := range out {
		x := api.Clause{Head: sparedAtom(c.Head), Body: spared(c.Body, atom("spare", v(1)), atom("room")), Tests: spared(c.Tests, test(9, v(8), none))}
		for k, a := range x.Body {
			x.Body[k] = sparedAtom(a)
		}
		out[i] = x
	}
	return out
}

func sparedProof(p api.Proof) api.Proof {
	out := api.Proof{Rules: sparedClauses(p.Rules), Steps: spared(p.Steps, step(9, []api.Term{v(9)}, -9), step(8, nil))}
	for i, s := range out.Steps {
		out.Steps[i] = step(s.Rule, spared(s.Vals, v(5), num(5)), spared(s.Uses, -5, 7)...)
	}
	return out
}

func sparedCerts(certs []string) [][]byte {
	out := spared(lists(certs), []byte("spare"), []byte("HSC1"))
	for i, b := range out {
		out[i] = spared(b, []byte("more of it")...)
	}
	return out
}

// whole: all of the arguments, their spare room too, as a text.
func whole(goal api.Atom, policy []api.Clause, certs [][]byte, p api.Proof) string {
	out := fmt.Sprintf("%v %v", goal, goal.Args[:cap(goal.Args)])
	for _, c := range slices.Concat(policy[:cap(policy)], p.Rules[:cap(p.Rules)]) {
		out += fmt.Sprintf("\n%v %v %v", c, c.Head.Args[:cap(c.Head.Args)], c.Tests[:cap(c.Tests)])
		for _, a := range c.Body[:cap(c.Body)] {
			out += fmt.Sprintf(" %v %v", a, a.Args[:cap(a.Args)])
		}
	}
	for _, b := range certs[:cap(certs)] {
		out += fmt.Sprintf("\n%x %d", b[:cap(b)], len(b))
	}
	for _, s := range p.Steps[:cap(p.Steps)] {
		out += fmt.Sprintf("\n%v %v %v", s, s.Vals[:cap(s.Vals)], s.Uses[:cap(s.Uses)])
	}
	return out
}

// rooms: of all that whole tells.
func rooms(goal api.Atom, policy []api.Clause, certs [][]byte, p api.Proof) []room {
	return slices.Concat([]room{termRoom(goal.Args)}, clauseRooms(policy), certRooms(certs), proofRooms(p))
}

func fillAll(l []room) {
	for i, r := range l {
		r.fill(i)
	}
}

// TestWriteLeavesItsArguments: their spare room too; its bytes are new memory, and what becomes of the arguments isn't seen in them. Also where it refuses.
func TestWriteLeavesItsArguments(t *testing.T) {
	all := append(bundles(), exampleBundle())
	for _, w := range wrongAtoms() {
		all = append(all, held{goal: w.a, certs: texts("x")})
	}
	for _, w := range wrongProofs() {
		all = append(all, held{goal: atom("ok"), certs: texts("x", ""), p: w.p})
	}
	all = append(all, held{goal: atom("p", num(1)), certs: texts(long(api.MaxBundle)), p: exampleBundle().p})
	for _, x := range all {
		goal, certs, p := sparedAtom(x.goal), sparedCerts(x.certs), sparedProof(x.p)
		before := whole(goal, nil, certs, p)
		first, err := bundle.Write(goal, certs, p)
		second, _ := bundle.Write(goal, certs, p)
		if whole(goal, nil, certs, p) != before {
			t.Errorf("P21.9: Write changes what it is given: %.300v", x)
		}
		want := string(first)
		fillAll(rooms(goal, nil, certs, p))
		byteRoom(second).fill(0xa5)
		if string(first) != want || err == api.OK && want != plainWrite(x) {
			t.Errorf("P21.9: the bytes of Write share memory: %.300v", x)
		}
		wantApart(t, "Write", []room{byteRoom(first), byteRoom(second)})
		if third, again := bundle.Write(x.goal, lists(x.certs), x.p); string(third) != want || again != err {
			t.Errorf("P21.9: Write of %.300v is another one behind a change of its bytes", x)
		}
	}
}

// TestReadAnswersNewMemory: no two lists of what is read share any, nor those of two answers, the certificates' bytes too; the bytes stay, their spare room too, and what becomes of them isn't seen.
func TestReadAnswersNewMemory(t *testing.T) {
	for _, x := range append(bundles(), exampleBundle()) {
		b := spared([]byte(plainWrite(x)), []byte("HSB1 and more")...)
		before := slices.Clone(b[:cap(b)])
		goal, certs, p, err := bundle.Read(b)
		goal2, certs2, p2, _ := bundle.Read(b)
		if !slices.Equal(b[:cap(b)], before) || err != api.OK {
			t.Errorf("P21.9: Read changes %.300x, %d", before, err)
		}
		byteRoom(b).fill('x')
		for _, got := range []held{{goal, unlisted(certs), p}, {goal2, unlisted(certs2), p2}} {
			if !sameHeld(got, x) {
				t.Errorf("P21.9: what was read, %.300v, is another one behind a change of the bytes", x)
			}
		}
		wantApart(t, "Read", append(rooms(goal, nil, certs, p), rooms(goal2, nil, certs2, p2)...))
		wantRead(t, plainWrite(x), x)
	}
}

// TestGrownCertificates: one that is read can't grow into the next.
func TestGrownCertificates(t *testing.T) {
	x := held{goal: atom("ok"), certs: texts("ab", "", "cd", "e")}
	_, certs, _, err := bundle.Read([]byte(plainWrite(x)))
	for i := range certs {
		_ = append(certs[i], "and much more than there is room for"...)
		_ = append(certs[i], 'z')
	}
	if err != api.OK || !slices.Equal(unlisted(certs), x.certs) {
		t.Errorf("P21.9: the certificates have become %q", certs)
	}
}

// TestRefusedBytesStay: of Read and Show, their spare room too.
func TestRefusedBytesStay(t *testing.T) {
	s, good, _ := shown(t)
	c := newChosen(219)
	for range 3000 {
		b := spared([]byte(c.spoilt(good)), []byte("HSB1 and more")...)
		before := slices.Clone(b[:cap(b)])
		bundle.Read(b)
		bundle.Show(s.ring, s.policy, b)
		if !slices.Equal(b[:cap(b)], before) {
			t.Fatalf("P21.9: %x was changed", before)
		}
	}
}

// TestMakeLeavesItsArguments: likewise, with each of its errors.
func TestMakeLeavesItsArguments(t *testing.T) {
	s := newScene(t)
	wrongPolicy := append(slices.Clone(s.policy), wrongClauses()[0].c)
	for _, x := range []struct {
		policy []api.Clause
		certs  []string
		goal   api.Atom
		fuel   int
		err    api.Errno
	}{
		{s.policy, s.certs, s.goal, 9, api.OK}, {s.policy, s.certs[:2], s.goal, 9, api.OK}, {programOf(t, "p(a)."), nil, goalOf(t, "p(a)"), 2, api.OK}, {nil, s.certs, goalOf(t, "carl says up"), 9, api.OK},
		{s.policy, s.certs, goalOf(t, "may(X)"), 9, api.ErrFact}, {s.policy, append(s.certs, "x"), s.goal, 9, api.ErrMagic}, {wrongPolicy, s.certs, s.goal, 9, api.ErrBody},
		{s.policy, s.certs, s.goal, 2, api.ErrFuel}, {s.policy, s.certs, atom("never"), 9, api.ErrNoFact},
	} {
		ring := signed(s.ring)
		goal, policy, certs := sparedAtom(x.goal), sparedClauses(x.policy), sparedCerts(x.certs)
		before := whole(goal, policy, certs, api.Proof{})
		first, err := bundle.Make(s.ring, policy, certs, goal, x.fuel)
		second, _ := bundle.Make(s.ring, policy, certs, goal, x.fuel)
		if err != x.err || whole(goal, policy, certs, api.Proof{}) != before {
			t.Errorf("P21.9: Make(%s) changes what it is given; %d, want %d", told(x.policy), err, x.err)
		}
		want := string(first)
		fillAll(rooms(goal, policy, certs, api.Proof{}))
		byteRoom(second).fill(0xa5)
		if string(first) != want {
			t.Errorf("P21.9: the bytes of Make(%s) share memory", told(x.policy))
		}
		wantApart(t, "Make", []room{byteRoom(first), byteRoom(second)})
		if third, again := bundle.Make(s.ring, x.policy, lists(x.certs), x.goal, x.fuel); string(third) != want || again != err {
			t.Errorf("P21.9: Make(%s) is another one behind a change of its bytes", told(x.policy))
		}
		if signed(s.ring) != ring {
			t.Error("P21.9: Make changes the ring")
		}
	}
}

// TestShowLeavesItsArguments: likewise; its goal is new memory.
func TestShowLeavesItsArguments(t *testing.T) {
	s, b, x := shown(t)
	wrongPolicy := append(slices.Clone(s.policy), wrongClauses()[0].c)
	for _, y := range []struct {
		policy []api.Clause
		b      string
		err    api.Errno
	}{
		{s.policy, b, api.OK}, {wrongPolicy, b, api.OK}, {nil, b, api.ErrForeign}, {s.policy, b[1:], api.ErrBundle}, {s.policy, b + long(api.MaxBundle), api.ErrBundleLong},
		{s.policy, rewritten(t, x, func(x *held) { x.certs[1] = "x" }), api.ErrMagic}, {s.policy, rewritten(t, x, func(x *held) { x.goal.Args = []api.Term{num(1)} }), api.ErrGoal},
	} {
		ring := signed(s.ring)
		policy, given := sparedClauses(y.policy), spared([]byte(y.b), []byte("HSB1 and more")...)
		before, bytesBefore := whole(api.Atom{}, policy, nil, api.Proof{}), slices.Clone(given[:cap(given)])
		first, err := bundle.Show(s.ring, policy, given)
		second, _ := bundle.Show(s.ring, policy, given)
		if err != y.err || whole(api.Atom{}, policy, nil, api.Proof{}) != before || !slices.Equal(given[:cap(given)], bytesBefore) {
			t.Errorf("P21.9: Show(%s) changes what it is given; %d, want %d", told(y.policy), err, y.err)
		}
		byteRoom(given).fill('x')
		fillAll(clauseRooms(policy))
		termRoom(second.Args).fill(7)
		if want := s.goal; err == api.OK && !sameAtom(first, want) || err != api.OK && !sameAtom(first, api.Atom{}) {
			t.Errorf("P21.9: what Show answered has become %+v", first)
		}
		wantApart(t, "Show", []room{termRoom(first.Args), termRoom(second.Args)})
		if third, again := bundle.Show(s.ring, y.policy, []byte(y.b)); again != err || err == api.OK && !sameAtom(third, s.goal) {
			t.Errorf("P21.9: Show is %+v, %d behind a change of its answer", third, again)
		}
		if signed(s.ring) != ring {
			t.Error("P21.9: Show changes the ring")
		}
	}
}

// TestNothingIsSigned: whoever is asked, and whatever is refused; the ring's principals stay too.
func TestNothingIsSigned(t *testing.T) {
	s, b, _ := shown(t)
	before := signed(s.ring)
	for _, u := range texts("alice", "bob", "dan") {
		for _, name := range texts("may", "good", "up") {
			goal := says(txt(u), name, txt("carl"))
			bundle.Make(s.ring, append(s.policy, rule(goal)), lists(s.certs), goal, 9)
			x, _ := readAll(b)
			x.goal = goal
			bundle.Show(s.ring, append(s.policy, rule(goal)), []byte(plainWrite(x)))
			bundle.Show(s.ring, rules(rule(goal)), []byte(plainWrite(held{goal, s.certs, derivation(rules(rule(goal)), step(0, nil))})))
		}
	}
	if signed(s.ring) != before {
		t.Errorf("P21.9: the ring has become %s, was %s", signed(s.ring), before)
	}
}

// oddClauses: of no use, but clauses all the same.
func oddClauses() []api.Clause {
	out := []api.Clause{{}, {Head: api.Atom{Args: make([]api.Term, 1000)}, Body: make([]api.Atom, 1000), Tests: make([]api.Test, 1000)}, rule(says(v(leastInt), "", num(leastInt)), atom("p", v(greatestInt), v(-1)))}
	for _, w := range wrongClauses() {
		out = append(out, w.c)
	}
	return out
}

// TestAnyArguments: every call ends and none panics, whatever it is given.
func TestAnyArguments(t *testing.T) {
	r := ringOf(t, "s", "alice")
	odd := [][]byte{nil, {}, {0}, []byte("HSB1"), []byte("HSC1"), make([]byte, 40), []byte("HSB1\xff\xff\xff\xff"), []byte("HSB1\x80\x00\x00\x00"), []byte("HSB1\x00\x00\x00\x00\xff\xff\xff\xff"), make([]byte, api.MaxBundle+1)}
	goals := []api.Atom{{}, atom(""), atom("p", make([]api.Term, 1000)...), says(v(leastInt), "p"), atom("p")}
	proofs := []api.Proof{{}, {Steps: make([]api.Step, 6000)}, {Rules: oddClauses()}, {Rules: oddClauses()[:1], Steps: []api.Step{step(leastInt, make([]api.Term, 100), leastInt, greatestInt)}}, derivation(rules(rule(atom("p"), atom("p"))), step(0, nil, 0), step(0, nil, 5))}
	for _, goal := range goals {
		for _, certs := range [][][]byte{nil, {}, odd, {nil}, {nil, nil}} {
			for _, p := range proofs {
				if b, err := bundle.Write(goal, certs, p); err == api.OK {
					bundle.Read(b)
					bundle.Show(r, oddClauses(), b)
				}
			}
			for _, policy := range [][]api.Clause{nil, {}, oddClauses(), rules(rule(atom("p")))} {
				for _, fuel := range []int{leastInt, -1, 0, 1, 2, greatestInt} {
					bundle.Make(r, policy, certs, goal, fuel)
				}
			}
		}
	}
	for _, b := range odd {
		wantRefused := func(err api.Errno) {
			t.Helper()
			if err != api.ErrBundle && err != api.ErrBundleLong {
				t.Errorf("P21.2: Read(%.40x) is %d", b, err)
			}
		}
		_, _, _, err := bundle.Read(b)
		wantRefused(err)
		_, err = bundle.Show(r, oddClauses(), b)
		wantRefused(err)
	}
}

// TestAtOneTime: several may make and show on one ring, out of the same lists.
func TestAtOneTime(t *testing.T) {
	s, b, x := shown(t)
	certs, other := lists(s.certs), keys.New(nil)
	var wait sync.WaitGroup
	for i := range 8 {
		wait.Go(func() {
			for range 40 {
				if got, err := bundle.Make(s.ring, s.policy, certs, s.goal, 9); err != api.OK || string(got) != b {
					t.Errorf("R4: Make is %x, %d", got, err)
				}
				if f, err := bundle.Show(s.ring, s.policy, []byte(b)); err != api.OK || !sameAtom(f, s.goal) {
					t.Errorf("R4: Show is %+v, %d", f, err)
				}
				if _, err := bundle.Show(other, s.policy, []byte(b)); err != api.ErrSeal {
					t.Errorf("R4: Show on another ring is %d", err)
				}
				if got, err := readAll(b); err != api.OK || !sameHeld(got, x) {
					t.Errorf("R4: Read is %+v, %d", got, err)
				}
				if _, err := bundle.Make(s.ring, s.policy, certs, atom("never"), 9-i%2); err != api.ErrNoFact {
					t.Errorf("R4: Make is %d", err)
				}
			}
		})
	}
	wait.Wait()
}
