package cert_test

import (
	"slices"
	"strconv"
	"sync"
	"testing"

	"hearsay/api"
	"hearsay/cert"
)

// P19.9, R3, R4.

// room: a list with its spare room, that can be filled with a mark, and asked for it.
type room struct {
	fill  func(mark int)
	holds func(mark int) bool
}

func roomOf[T any](l []T, sign func(mark int) T, same func(a, b T) bool) room {
	l = l[:cap(l)]
	return room{
		func(mark int) {
			for i := range l {
				l[i] = sign(mark)
			}
		},
		func(mark int) bool {
			return !slices.ContainsFunc(l, func(x T) bool { return !same(x, sign(mark)) })
		},
	}
}

func equal[T comparable](a, b T) bool { return a == b }

func markedByte(mark int) byte     { return byte(mark) }
func markedAtom(mark int) api.Atom { return atom(strconv.Itoa(mark)) }
func markedTest(mark int) api.Test { return test(mark, none, none) }

func byteRoom(b []byte) room     { return roomOf(b, markedByte, equal) }
func termRoom(l []api.Term) room { return roomOf(l, num, equal) }

// clauseRooms: all lists of a clause, those of the atoms in its body's spare room too.
func clauseRooms(c api.Clause) []room {
	l := []room{termRoom(c.Head.Args), roomOf(c.Body, markedAtom, sameAtom), roomOf(c.Tests, markedTest, equal)}
	for _, a := range c.Body[:cap(c.Body)] {
		l = append(l, termRoom(a.Args))
	}
	return l
}

// wantApart: no two of the rooms share memory. All are written over.
func wantApart(t *testing.T, what string, rooms []room) {
	t.Helper()
	for i, r := range rooms {
		r.fill(i)
	}
	for i, r := range rooms {
		if !r.holds(i) {
			t.Errorf("R3: %s: two lists share memory", what)
			return
		}
	}
}

// spared: a copy of l with spare room behind it that isn't zero.
func spared[T any](l []T, behind ...T) []T { return append(slices.Clone(l), behind...)[:len(l)] }

func sparedAtom(a api.Atom) api.Atom {
	return says(a.By, a.Name, spared(a.Args, num(71), v(3), txt("spare"))...)
}

func sparedClause(c api.Clause) api.Clause {
	out := api.Clause{Head: sparedAtom(c.Head), Body: spared(c.Body, atom("spare", v(1)), atom("room")), Tests: spared(c.Tests, test(9, v(8), none))}
	for i, a := range out.Body {
		out.Body[i] = sparedAtom(a)
	}
	return out
}

func wholeAtom(a api.Atom) api.Atom {
	return says(a.By, a.Name, slices.Clone(a.Args[:cap(a.Args)])...)
}

// wholeClause: all of a clause, its spare room too, in new memory.
func wholeClause(c api.Clause) api.Clause {
	out := api.Clause{Head: wholeAtom(c.Head), Tests: slices.Clone(c.Tests[:cap(c.Tests)])}
	for _, a := range c.Body[:cap(c.Body)] {
		out.Body = append(out.Body, wholeAtom(a))
	}
	return out
}

// clausesOfAllSorts: valid, qualified, and wrong ones, and one whose atoms share a list.
func clausesOfAllSorts() []api.Clause {
	shared := []api.Term{v(0), txt("ann")}
	out := append(validClauses(), rule(atom("p", shared...), nTimes(3, atom("q", shared...))...))
	for _, w := range wrongClauses() {
		out = append(out, w.c)
	}
	return append(out, qualifiedClauses()...)
}

// TestClausesStay: Body and Issue leave the clause as it is, its spare room too; and what becomes of it isn't seen in the bytes.
func TestClausesStay(t *testing.T) {
	for _, given := range clausesOfAllSorts() {
		for _, u := range texts("ann", "carl", "") {
			r := ringOf(t, "s", "ann")
			c := sparedClause(given)
			before := wholeClause(c)
			body, _ := cert.Body(u, c)
			b, _ := cert.Issue(r, u, c)
			if !same(wholeClause(c), before) {
				t.Errorf("P19.9: a clause was changed: %+v", given)
			}
			wantedBody, wanted := slices.Clone(body), slices.Clone(b)
			for i, x := range clauseRooms(c) {
				x.fill(i)
			}
			if !slices.Equal(body, wantedBody) || !slices.Equal(b, wanted) {
				t.Errorf("P19.9: bytes share memory with the clause %+v", given)
			}
		}
	}
}

// TestBytesAreNewMemory: of Body and Issue; what is written into them is never seen again.
func TestBytesAreNewMemory(t *testing.T) {
	r := ringOf(t, "s", "ann")
	for _, c := range validClauses() {
		var rooms []room
		for range 2 {
			body, _ := cert.Body("ann", c)
			b, _ := cert.Issue(r, "ann", c)
			rooms = append(rooms, byteRoom(body), byteRoom(b))
		}
		before := seen(r)
		wantApart(t, "Body and Issue", rooms)
		wantSeen(t, r, before)
		b := sealed("s", "ann", plainBody("ann", c))
		wantIssued(t, r, "ann", c, b)
		wantOpened(t, r, b, said(t, b))
	}
}

// bytesOfAllSorts: certificates, and such as are refused, each with every error.
func bytesOfAllSorts(t *testing.T) []string {
	r := ringOf(t, "s", "ann")
	out := texts("", "HSC", "HSC1", "HSC1\x00", "HSC1\x03an", "HSC1\x03ann"+seals()[0], "HSC1\x03ann\x09"+seals()[0], exampleCert()+"\x00", plainBody("ann", saidBy(txt("bob"), fact("ok")))+seals()[0])
	for _, c := range validClauses() {
		b := issued(t, r, "ann", c)
		out = append(out, b, turned(b, len(b)-1, 1), b[:len(b)-1])
	}
	return out
}

// TestBytesStay: Read, Open and Id leave them, their spare room too, and what stands there isn't seen; and what becomes of them isn't seen in what was read.
func TestBytesStay(t *testing.T) {
	for _, given := range bytesOfAllSorts(t) {
		r := ringOf(t, "s", "ann")
		want, err := plainRead(given)
		if err == api.OK {
			issued(t, r, "ann", want.Clause)
		}
		b := spared([]byte(given), []byte(exampleCert())...)
		before := slices.Clone(b[:cap(b)])
		read, readErr := cert.Read(b)
		opened, openErr := cert.Open(r, b)
		id := cert.Id(b)
		if !slices.Equal(b[:cap(b)], before) {
			t.Errorf("P19.9: the bytes %x were changed", given)
		}
		byteRoom(b).fill('x')
		if !sameCert(read, want) || readErr != err || id != sum(given) {
			t.Errorf("P19.9: Read(%x) is %+v, %d, want %+v, %d", given, read, readErr, want, err)
		}
		if openErr == api.OK && !sameCert(opened, want) {
			t.Errorf("P19.9: Open(%x) is %+v, want %+v", given, opened, want)
		}
		wantOpen := err
		if err == api.OK && sealed("s", "ann", bodyOf(given)) != given {
			wantOpen = api.ErrSeal
		}
		if openErr != wantOpen {
			t.Errorf("P19.4: Open(%x) is %d, want %d", given, openErr, wantOpen)
		}
	}
}

// TestWhatIsReadIsNewMemory: no two lists of what is read share any, nor those of two answers; what is written into them is never seen again.
func TestWhatIsReadIsNewMemory(t *testing.T) {
	r := ringOf(t, "s", "ann")
	for _, c := range validClauses() {
		b := []byte(issued(t, r, "ann", c))
		var rooms []room
		for range 2 {
			read, _ := cert.Read(b)
			opened, _ := cert.Open(r, b)
			rooms = slices.Concat(rooms, clauseRooms(read.Clause), clauseRooms(opened.Clause))
		}
		rooms = append(rooms, byteRoom(b))
		before := string(b)
		wantApart(t, "Read and Open", rooms)
		wantOpened(t, r, before, said(t, before))
	}
}

// TestAtOneTime: nothing is kept but on the ring, which several may use.
func TestAtOneTime(t *testing.T) {
	r, other := ringOf(t, "s", "ann", "bob"), ringOf(t, "s", "ann", "bob")
	clauses := validClauses()
	var wait sync.WaitGroup
	for i := range 8 {
		wait.Go(func() {
			u := texts("ann", "bob")[i%2]
			for _, c := range clauses {
				want := sealed("s", u, plainBody(u, c))
				b, err := cert.Issue(r, u, c)
				if string(b) != want || err != api.OK {
					t.Errorf("P19.2: Issue(%q, %+v) is %x, %d", u, c, b, err)
				}
				if x, err := cert.Open(r, b); err != api.OK || !same(x.Clause, c) || x.Signer != u {
					t.Errorf("P19.4: Open(%x) is %+v, %d", b, x, err)
				}
				if x, err := cert.Open(other, b); err != api.ErrSeal || !sameCert(x, api.Cert{}) {
					t.Errorf("P19.8: Open(%x) is %+v, %d", b, x, err)
				}
				if cert.Id(b) != sum(want) {
					t.Errorf("P19.5: Id(%x)", b)
				}
			}
		})
	}
	wait.Wait()
}
