package syntax_test

import (
	"slices"
	"strconv"
	"sync"
	"testing"

	"hearsay/api"
	"hearsay/syntax"
)

// R3, R4.

// room: a list with its spare room, that can be filled with a mark, and asked for it.
type room struct {
	fill  func(mark int)
	holds func(mark int) bool
}

func roomOf[T any](l []T, sign func(mark int) T, same func(a, b T) bool) room {
	l = l[:cap(l)]
	return room{
		func(mark int) {
			for i := range l {
				l[i] = sign(mark)
			}
		},
		func(mark int) bool {
			return !slices.ContainsFunc(l, func(x T) bool { return !same(x, sign(mark)) })
		},
	}
}

func equal[T comparable](a, b T) bool { return a == b }

func markedAtom(mark int) api.Atom     { return atom(strconv.Itoa(mark)) }
func markedTest(mark int) api.Test     { return test(mark, none, none) }
func markedClause(mark int) api.Clause { return rule(markedAtom(mark)) }

func termRoom(l []api.Term) room { return roomOf(l, num, equal) }

// roomsOf: all lists of a clause, those of the atoms in its body's spare room too.
func roomsOf(c api.Clause) []room {
	l := []room{termRoom(c.Head.Args), roomOf(c.Body, markedAtom, sameAtom), roomOf(c.Tests, markedTest, equal)}
	for _, a := range c.Body[:cap(c.Body)] {
		l = append(l, termRoom(a.Args))
	}
	return l
}

func roomsOfAll(cs []api.Clause) []room {
	l := []room{roomOf(cs, markedClause, same)}
	for _, c := range cs[:cap(cs)] {
		l = append(l, roomsOf(c)...)
	}
	return l
}

// wantApart: no two of the rooms share memory. All are written over.
func wantApart(t *testing.T, what string, rooms []room) {
	t.Helper()
	for i, r := range rooms {
		r.fill(i)
	}
	for i, r := range rooms {
		if !r.holds(i) {
			t.Errorf("R3: %s: two lists share memory", what)
			return
		}
	}
}

// TestAnswersAreNewMemory: alternatives have atoms in common, but no list.
func TestAnswersAreNewMemory(t *testing.T) {
	for _, text := range []string{
		"", "p.", "p(a). p(a). p(a).",
		"p(X, a) :- q(X, b), X < 5.",
		"p(X, a) :- q(X, b), (r(X); s(X, 7); X < 5), t(X, Y), (X != Y; X says u(Y)).",
		"p(X) :- q(X); r(X), r(X), r(X), r(X), r(X). p(X) :- q(X); r(X).",
	} {
		first, f := syntax.Program(text)
		if f.Err != api.OK {
			t.Fatalf("Program(%q): %v", text, f)
		}
		second, _ := syntax.Program(text)
		wantApart(t, "Program", slices.Concat(roomsOfAll(first), roomsOfAll(second)))
		third, _ := syntax.Program(text)
		again, _ := plainProgram(cut(t, text), len(text))
		if !sameClauses(third, again) {
			t.Errorf("R3: Program(%q) is %+v behind a change of its answers, want %+v", text, third, again)
		}
	}
	const one = "p(X, a) :- q(X, b), r(X, X), X < 5, 1 = 1."
	c, _ := syntax.Clause(one)
	d, _ := syntax.Clause(one)
	wantApart(t, "Clause", slices.Concat(roomsOf(c), roomsOf(d)))
	a, _ := syntax.Query("X says p(Y, a, b)?")
	b, _ := syntax.Query("X says p(Y, a, b)?")
	wantApart(t, "Query", []room{termRoom(a.Args), termRoom(b.Args)})
}

// spared: a copy of l with spare room behind it that isn't zero.
func spared[T any](l []T, behind ...T) []T { return append(slices.Clone(l), behind...)[:len(l)] }

func sparedAtom(a api.Atom) api.Atom {
	return says(a.By, a.Name, spared(a.Args, num(71), v(3), txt("spare"))...)
}

// sparedClause: a copy of c in which every list has spare room.
func sparedClause(c api.Clause) api.Clause {
	out := api.Clause{Head: sparedAtom(c.Head), Body: spared(c.Body, atom("spare", v(1)), atom("room")), Tests: spared(c.Tests, test(9, v(8), none))}
	for i, a := range out.Body {
		out.Body[i] = sparedAtom(a)
	}
	return out
}

// kept: a copy of all of c, its spare room too; what is told in one list each.
func kept(c api.Clause) api.Clause {
	wholeAtom := func(a api.Atom) api.Atom { return says(a.By, a.Name, slices.Clone(a.Args[:cap(a.Args)])...) }
	out := api.Clause{Head: wholeAtom(c.Head), Tests: slices.Clone(c.Tests[:cap(c.Tests)])}
	for _, a := range c.Body[:cap(c.Body)] {
		out.Body = append(out.Body, wholeAtom(a))
	}
	return out
}

// TestArgumentsStay: what is printed is as it was, its spare room too, whether it is valid or not.
func TestArgumentsStay(t *testing.T) {
	calls := map[string]func(c api.Clause){
		"PrintAtom":  func(c api.Clause) { syntax.PrintAtom(c.Head) },
		"PrintQuery": func(c api.Clause) { syntax.PrintQuery(c.Head) },
		"Print":      func(c api.Clause) { syntax.Print(c) },
		"PrintAll":   func(c api.Clause) { syntax.PrintAll([]api.Clause{c, c}) },
	}
	samples := append(validClauses()[:200], clausesRefused()...)
	for name, call := range calls {
		for _, sample := range samples {
			c := sparedClause(sample)
			before := kept(c)
			call(c)
			if !same(kept(c), before) {
				t.Errorf("R3: %s changed what it was given: %+v", name, sample)
			}
		}
	}
	cs := spared(clausesRefused(), rule(atom("spare")), rule(atom("room", v(7))))
	before := slices.Clone(cs[:cap(cs)])
	syntax.PrintAll(cs)
	if !sameClauses(cs[:cap(cs)], before) {
		t.Error("R3: PrintAll changed its list")
	}
}

// TestNilAndEmptyAreOne: R1, as arguments.
func TestNilAndEmptyAreOne(t *testing.T) {
	empty := api.Clause{Head: api.Atom{Name: "p", Args: []api.Term{}}, Body: []api.Atom{}, Tests: []api.Test{}}
	if syntax.Print(empty) != "p." || syntax.Print(rule(atom("p"))) != "p." || syntax.PrintAtom(empty.Head) != "p" {
		t.Error("R1: empty lists are printed otherwise than nil")
	}
}

// TestTextsMayBeReadAtOneTime: nothing is kept from call to call.
func TestTextsMayBeReadAtOneTime(t *testing.T) {
	var wait sync.WaitGroup
	for range 8 {
		wait.Go(func() {
			r := newPicker(44)
			for range 150 {
				wantAsPlain(t, r.program())
				wantAsPlain(t, r.atom()+"?")
			}
		})
	}
	wait.Wait()
}
