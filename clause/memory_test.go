package clause_test

import (
	"slices"
	"strconv"
	"testing"

	"hearsay/api"
	"hearsay/clause"
)

// room: a list with its spare room, that can be filled with a mark, and asked for it.
type room struct {
	fill  func(mark int)
	holds func(mark int) bool
}

func roomOf[T any](l []T, sign func(mark int) T, same func(a, b T) bool) room {
	l = l[:cap(l)]
	return room{
		func(mark int) {
			for i := range l {
				l[i] = sign(mark)
			}
		},
		func(mark int) bool {
			return !slices.ContainsFunc(l, func(x T) bool { return !same(x, sign(mark)) })
		},
	}
}

func equal[T comparable](a, b T) bool { return a == b }

func termRoom(l []api.Term) room { return roomOf(l, num, equal) }

func predRoom(l []api.Pred) room {
	return roomOf(l, func(mark int) api.Pred { return api.Pred{Arity: mark} }, equal)
}

func markedAtom(mark int) api.Atom     { return atom(strconv.Itoa(mark)) }
func markedTest(mark int) api.Test     { return test(mark, none, none) }
func markedClause(mark int) api.Clause { return rule(markedAtom(mark)) }

// roomsOf: all lists of a clause, those of the atoms in its body's spare room too.
func roomsOf(c api.Clause) []room {
	l := []room{termRoom(c.Head.Args), roomOf(c.Body, markedAtom, sameAtom), roomOf(c.Tests, markedTest, equal)}
	for _, a := range c.Body[:cap(c.Body)] {
		l = append(l, termRoom(a.Args))
	}
	return l
}

func roomsOfAll(cs []api.Clause) []room {
	l := []room{roomOf(cs, markedClause, same)}
	for _, c := range cs[:cap(cs)] {
		l = append(l, roomsOf(c)...)
	}
	return l
}

// wantApart: no two of the rooms share memory. All are written over.
func wantApart(t *testing.T, what string, rooms []room) {
	t.Helper()
	for i, r := range rooms {
		r.fill(i)
	}
	for i, r := range rooms {
		if !r.holds(i) {
			t.Errorf("R3: %s: two lists share memory", what)
			return
		}
	}
}

// spared: a copy of l with spare room behind it that isn't zero.
func spared[T any](l []T, behind ...T) []T { return append(slices.Clone(l), behind...)[:len(l)] }

func sparedAtom(a api.Atom) api.Atom {
	return says(a.By, a.Name, spared(a.Args, num(71), v(3), alice)...)
}

// sparedClause: a copy of c in which every list has spare room.
func sparedClause(c api.Clause) api.Clause {
	out := api.Clause{Head: sparedAtom(c.Head), Body: spared(c.Body, atom("spare", v(1)), atom("room", bob)), Tests: spared(c.Tests, test(9, v(8), bob))}
	for i, a := range out.Body {
		out.Body[i] = sparedAtom(a)
	}
	return out
}

func sparedClauses(cs []api.Clause) []api.Clause {
	out := spared(cs, rule(atom("spare"), atom("room", v(0))))
	for i, c := range out {
		out[i] = sparedClause(c)
	}
	return out
}

// kept: a copy of all of c, its spare room too; what is told in one list each.
func kept(c api.Clause) api.Clause {
	wholeAtom := func(a api.Atom) api.Atom { return says(a.By, a.Name, slices.Clone(a.Args[:cap(a.Args)])...) }
	out := api.Clause{Head: wholeAtom(c.Head), Tests: slices.Clone(c.Tests[:cap(c.Tests)])}
	for _, a := range c.Body[:cap(c.Body)] {
		out.Body = append(out.Body, wholeAtom(a))
	}
	return out
}

func keptAll(cs []api.Clause) []api.Clause {
	var out []api.Clause
	for _, c := range cs[:cap(cs)] {
		out = append(out, kept(c))
	}
	return out
}

// samples: valid clauses and others; atoms that share one argument list; lists that are empty.
func samples() []api.Clause {
	shared := []api.Term{v(0), alice}
	twice := rule(atom("p", shared...), nTimes(3, atom("q", shared...))...)
	full := with(rule(atom("p", v(0), num(7)), atom("q", v(0), v(1)), says(alice, "q", v(1)), says(v(2), "r")), test(api.OpLt, v(0), v(1)), test(api.OpNe, v(2), bob))
	return slices.Concat([]api.Clause{twice, full, rule(atom("p")), {}}, oddClauses())
}

// P3.12, R3: what is handed in stays as it is, its spare room too.
func TestArgumentsStay(t *testing.T) {
	calls := map[string]func(c, d api.Clause, vals []api.Term){
		"Check":    func(c, d api.Clause, vals []api.Term) { clause.Check(c) },
		"Normal":   func(c, d api.Clause, vals []api.Term) { clause.Normal(c) },
		"Compare":  func(c, d api.Clause, vals []api.Term) { clause.Compare(c, d) },
		"Vars":     func(c, d api.Clause, vals []api.Term) { clause.Vars(c) },
		"Instance": func(c, d api.Clause, vals []api.Term) { clause.Instance(c, vals) },
		"Quote":    func(c, d api.Clause, vals []api.Term) { clause.Quote("carl", c) },
	}
	for name, call := range calls {
		for _, sample := range samples() {
			c, d, vals := sparedClause(sample), sparedClause(sample), spared([]api.Term{num(5), v(0)}, bob, v(1))
			c1, d1, vals1 := kept(c), kept(d), slices.Clone(vals[:cap(vals)])
			call(c, d, vals)
			if !same(kept(c), c1) || !same(kept(d), d1) || !slices.Equal(vals[:cap(vals)], vals1) {
				t.Errorf("%s changed what it was given: %+v", name, sample)
			}
		}
	}
}

// P3.12, R3: so for calls that take lists of clauses.
func TestListsOfClausesStay(t *testing.T) {
	calls := map[string]func(cs []api.Clause){
		"Set":    func(cs []api.Clause) { clause.Set(cs) },
		"Consts": func(cs []api.Clause) { clause.Consts(cs) },
		"Preds":  func(cs []api.Clause) { clause.Preds(cs) },
		"Bound":  func(cs []api.Clause) { clause.Bound(cs) },
	}
	for name, call := range calls {
		cs := sparedClauses(slices.Concat(samples(), samples()))
		slices.Reverse(cs)
		before := keptAll(cs)
		call(cs)
		if !sameClauses(keptAll(cs), before) {
			t.Errorf("%s changed what it was given", name)
		}
	}
}

// P3.12, R3: a clause that is answered shares no list with what was handed in, nor any two of its own.
func TestAnswersAreNewMemory(t *testing.T) {
	vals := []api.Term{num(5), v(0), bob}
	for _, sample := range samples() {
		answers := map[string]func(c api.Clause) api.Clause{
			"Normal":   clause.Normal,
			"Instance": func(c api.Clause) api.Clause { return clause.Instance(c, vals) },
			"Instance without values": func(c api.Clause) api.Clause {
				return clause.Instance(c, nil)
			},
			"Quote": func(c api.Clause) api.Clause {
				q, _ := clause.Quote("carl", c)
				return q
			},
		}
		for name, answer := range answers {
			wantApart(t, name, roomsOf(answer(sample)))
			c := sparedClause(sample)
			wantApart(t, name, slices.Concat(roomsOf(answer(c)), roomsOf(c), []room{termRoom(vals)}))
			vals = []api.Term{num(5), v(0), bob}
			c = sparedClause(sample)
			wantApart(t, name, slices.Concat(roomsOf(answer(c)), roomsOf(answer(c))))
		}
	}
}

// P3.12, R3: so for lists that are answered.
func TestListsAnsweredAreNewMemory(t *testing.T) {
	doubled := slices.Concat(samples(), samples())
	wantApart(t, "Set", roomsOfAll(clause.Set(doubled)))
	cs := sparedClauses(doubled)
	wantApart(t, "Set", slices.Concat(roomsOfAll(clause.Set(cs)), roomsOfAll(cs)))
	cs = clause.Set(samples())
	wantApart(t, "Set of what is sorted", slices.Concat(roomsOfAll(clause.Set(cs)), roomsOfAll(clause.Set(cs)), roomsOfAll(cs)))
	cs = sparedClauses(samples())
	wantApart(t, "Consts", append([]room{termRoom(clause.Consts(cs)), termRoom(clause.Consts(cs))}, roomsOfAll(cs)...))
	cs = sparedClauses(samples())
	wantApart(t, "Preds", append([]room{predRoom(clause.Preds(cs)), predRoom(clause.Preds(cs))}, roomsOfAll(cs)...))
}

// P3.12, R1: nil and empty lists are the same as arguments.
func TestNilAndEmptyAreOne(t *testing.T) {
	empty := api.Clause{Head: api.Atom{Name: "p", Args: []api.Term{}}, Body: []api.Atom{{Name: "q", Args: []api.Term{}}}, Tests: []api.Test{}}
	bare := api.Clause{Head: api.Atom{Name: "p"}, Body: []api.Atom{{Name: "q"}}}
	if clause.Check(empty) != api.OK || clause.Check(bare) != api.OK {
		t.Error("Check refuses p :- q")
	}
	wantClause(t, "Normal", clause.Normal(empty), clause.Normal(bare))
	wantClause(t, "Instance", clause.Instance(empty, []api.Term{}), clause.Instance(bare, nil))
	a, _ := clause.Quote("bob", empty)
	b, _ := clause.Quote("bob", bare)
	wantClause(t, "Quote", a, b)
	if len(clause.Consts([]api.Clause{})) != 0 || len(clause.Preds([]api.Clause{})) != 0 || clause.Bound([]api.Clause{}) != 1 {
		t.Error("no clauses have constants, predicates or another bound than 1")
	}
}
