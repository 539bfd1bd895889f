package codec_test

import (
	"slices"
	"strconv"
	"sync"
	"testing"

	"hearsay/api"
)

// P6.6, R3, R4.

// room: a list with its spare room, that can be filled with a mark, and asked for it.
type room struct {
	fill  func(mark int)
	holds func(mark int) bool
}

func roomOf[T any](l []T, sign func(mark int) T, same func(a, b T) bool) room {
	l = l[:cap(l)]
	return room{
		func(mark int) {
			for i := range l {
				l[i] = sign(mark)
			}
		},
		func(mark int) bool {
			return !slices.ContainsFunc(l, func(x T) bool { return !same(x, sign(mark)) })
		},
	}
}

func equal[T comparable](a, b T) bool { return a == b }

func markedByte(mark int) byte         { return byte(mark) }
func markedAtom(mark int) api.Atom     { return atom(strconv.Itoa(mark)) }
func markedTest(mark int) api.Test     { return test(mark, none, none) }
func markedClause(mark int) api.Clause { return rule(markedAtom(mark)) }
func markedStep(mark int) api.Step     { return step(mark, nil) }
func markedInt(mark int) int           { return mark }

func byteRooms(b []byte) []room     { return []room{roomOf(b, markedByte, equal)} }
func termRoom(l []api.Term) room    { return roomOf(l, num, equal) }
func atomRooms(a api.Atom) []room   { return []room{termRoom(a.Args)} }
func proofRooms(p api.Proof) []room { return append(setRooms(p.Rules), stepRooms(p.Steps)...) }

// clauseRooms: all lists of a clause, those of the atoms in its body's spare room too.
func clauseRooms(c api.Clause) []room {
	l := []room{termRoom(c.Head.Args), roomOf(c.Body, markedAtom, sameAtom), roomOf(c.Tests, markedTest, equal)}
	for _, a := range c.Body[:cap(c.Body)] {
		l = append(l, termRoom(a.Args))
	}
	return l
}

func setRooms(cs []api.Clause) []room {
	l := []room{roomOf(cs, markedClause, same)}
	for _, c := range cs[:cap(cs)] {
		l = append(l, clauseRooms(c)...)
	}
	return l
}

func stepRooms(steps []api.Step) []room {
	l := []room{roomOf(steps, markedStep, sameStep)}
	for _, s := range steps[:cap(steps)] {
		l = append(l, termRoom(s.Vals), roomOf(s.Uses, markedInt, equal))
	}
	return l
}

// wantApart: no two of the rooms share memory. All are written over.
func wantApart(t *testing.T, what string, rooms []room) {
	t.Helper()
	for i, r := range rooms {
		r.fill(i)
	}
	for i, r := range rooms {
		if !r.holds(i) {
			t.Errorf("P6.6: %s: two lists share memory", what)
			return
		}
	}
}

// spared: a copy of l with spare room behind it that isn't zero.
func spared[T any](l []T, behind ...T) []T { return append(slices.Clone(l), behind...)[:len(l)] }

// sparedAtom, and those below it: a copy in which every list has spare room.
func sparedAtom(a api.Atom) api.Atom {
	return says(a.By, a.Name, spared(a.Args, num(71), v(3), txt("spare"))...)
}

func sparedClause(c api.Clause) api.Clause {
	out := api.Clause{Head: sparedAtom(c.Head), Body: spared(c.Body, atom("spare", v(1)), atom("room")), Tests: spared(c.Tests, test(9, v(8), none))}
	for i, a := range out.Body {
		out.Body[i] = sparedAtom(a)
	}
	return out
}

func sparedSet(cs []api.Clause) []api.Clause {
	out := spared(cs, rule(atom("spare"), atom("room", v(0))), rule(atom("a")))
	for i, c := range out {
		out[i] = sparedClause(c)
	}
	return out
}

func sparedProof(p api.Proof) api.Proof {
	out := api.Proof{Rules: sparedSet(p.Rules), Steps: spared(p.Steps, step(9, []api.Term{v(9)}, -9), step(8, nil))}
	for i, s := range out.Steps {
		out.Steps[i] = step(s.Rule, spared(s.Vals, v(5), num(5)), spared(s.Uses, -5, 7)...)
	}
	return out
}

// wholeAtom, and those below it: all of a thing, its spare room too, in new memory.
func wholeAtom(a api.Atom) api.Atom {
	return says(a.By, a.Name, slices.Clone(a.Args[:cap(a.Args)])...)
}

func wholeClause(c api.Clause) api.Clause {
	out := api.Clause{Head: wholeAtom(c.Head), Tests: slices.Clone(c.Tests[:cap(c.Tests)])}
	for _, a := range c.Body[:cap(c.Body)] {
		out.Body = append(out.Body, wholeAtom(a))
	}
	return out
}

func wholeSet(cs []api.Clause) []api.Clause {
	var out []api.Clause
	for _, c := range cs[:cap(cs)] {
		out = append(out, wholeClause(c))
	}
	return out
}

func wholeProof(p api.Proof) api.Proof {
	out := api.Proof{Rules: wholeSet(p.Rules)}
	for _, s := range p.Steps[:cap(p.Steps)] {
		out.Steps = append(out.Steps, step(s.Rule, slices.Clone(s.Vals[:cap(s.Vals)]), slices.Clone(s.Uses[:cap(s.Uses)])...))
	}
	return out
}

// wantLeft: writing leaves the thing as it is, its spare room too; its bytes are new memory, and what becomes of the thing isn't seen in them.
func wantLeft[T any](t *testing.T, f face[T], things []T, spare, whole func(T) T, rooms func(T) []room) {
	t.Helper()
	for _, thing := range things {
		x := spare(thing)
		before := whole(x)
		first, err := f.write(x)
		second, _ := f.write(x)
		if !f.same(whole(x), before) {
			t.Errorf("P6.6: %s changed what it was given: %+v", f.name, thing)
		}
		want := slices.Clone(first)
		for i, r := range rooms(x) {
			r.fill(i)
		}
		for i := range second[:cap(second)] {
			second[:cap(second)][i] = 0xa5
		}
		if !slices.Equal(first, want) {
			t.Errorf("P6.6: the bytes of %s(%+v) share memory", f.name, thing)
		}
		if err == api.OK {
			wantApart(t, f.name, slices.Concat(byteRooms(first), byteRooms(second)))
		}
		third, errAgain := f.write(thing)
		if !slices.Equal(third, want) || errAgain != err {
			t.Errorf("P6.6: %s(%+v) is another one behind a change of its bytes", f.name, thing)
		}
	}
}

func TestWritingLeavesItsArguments(t *testing.T) {
	wrong, odd := wrongClauses(), wrongAtoms()
	shared := []api.Term{v(0), txt("alice")}
	twice := rule(atom("p", shared...), nTimes(3, atom("q", shared...))...)
	mixed := slices.Concat(shownClauses(), shownClauses(), list(twice))
	slices.Reverse(mixed)
	wantLeft(t, atoms(), slices.Concat(validAtoms()[:60], odd), sparedAtom, wholeAtom, atomRooms)
	wantLeft(t, clauses(), slices.Concat(mixed, wrong), sparedClause, wholeClause, clauseRooms)
	wantLeft(t, sets(), [][]api.Clause{nil, mixed, wrong, slices.Concat(mixed, wrong)}, sparedSet, wholeSet, setRooms)
	unwritable := []api.Proof{proof(wrong, step(0, nil)), proof(mixed, step(0, shared, 1, 2)), proof(nil, step(0, nil, 3, -1))}
	wantLeft(t, proofs(), append(writableProofs(), unwritable...), sparedProof, wholeProof, proofRooms)
}

// wantNew: reading leaves the bytes as they are, their spare room too; no two lists of what is read share memory, nor those of two answers; and what becomes of the bytes isn't seen in it.
func wantNew[T any](t *testing.T, f face[T], things []T, rooms func(T) []room) {
	t.Helper()
	for _, thing := range things {
		canonical := joined(f.parts(thing))
		b := spared(canonical, 1, 2, 3, 0xff)
		before := slices.Clone(b[:cap(b)])
		first, err := f.read(b)
		second, _ := f.read(b)
		if !slices.Equal(b[:cap(b)], before) {
			t.Errorf("P6.6: Read%s changed the bytes %x", f.name, before)
		}
		for i := range b[:cap(b)] {
			b[:cap(b)][i] = 'x'
		}
		if !f.same(first, thing) || !f.same(second, thing) || err != api.OK {
			t.Errorf("P6.6: what Read%s answered, %+v, is another one behind a change of the bytes", f.name, thing)
		}
		wantApart(t, "Read"+f.name, slices.Concat(rooms(first), rooms(second)))
		f.wantRead(t, "P6.6", canonical, thing)
	}
}

func TestReadingAnswersNewMemory(t *testing.T) {
	wantNew(t, atoms(), validAtoms(), atomRooms)
	wantNew(t, clauses(), validClauses(), clauseRooms)
	wantNew(t, sets(), validSets(), setRooms)
	wantNew(t, proofs(), writableProofs(), proofRooms)
}

// TestRefusedBytesStay: where reading ends with an error too.
func TestRefusedBytesStay(t *testing.T) {
	r := newChosen(67)
	for _, d := range writableProofs()[:9] {
		for range 50 {
			b := spared(r.spoiltByChance(joined(proofParts(d))), 7, 8, 9)
			before := slices.Clone(b[:cap(b)])
			atoms().read(b)
			clauses().read(b)
			sets().read(b)
			proofs().read(b)
			if !slices.Equal(b[:cap(b)], before) {
				t.Fatalf("P6.6: a reader changed the bytes %x", before)
			}
		}
	}
}

// TestThingsMayBeReadAtOneTime: nothing is kept from call to call.
func TestThingsMayBeReadAtOneTime(t *testing.T) {
	var wait sync.WaitGroup
	for range 8 {
		wait.Go(func() {
			wantSpoiltAsPlain(t, clauses(), shownClauses(), 20)
			wantSpoiltAsPlain(t, proofs(), writableProofs()[:9], 20)
			wantAsPlain(t, sets(), validSets()[:20])
		})
	}
	wait.Wait()
}
