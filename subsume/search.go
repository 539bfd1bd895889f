package subsume

import (
	"math/bits"
	"slices"

	"hearsay/api"
	"hearsay/term"
)

// row: the head of c, or an atom of its body, and what it can become. A valid clause's variables are numbered as they first stand, so those that the rows ahead have are just those with the smaller numbers.
type row struct {
	ways  []api.Binding // what its variables become, one for each atom of d that it can become, in the order of these
	known int           // how many variables the rows ahead have
	tests []api.Test    // those of c that can be asked behind this row, and not earlier
	leans uint          // which rows ahead have a variable that stands here or in these tests: a bit each

	next  int  // the place of the way that is tried next
	blame uint // which rows ahead must become something else, if no way is left
}

func (r *row) startAgain() { r.next, r.blame = 0, r.leans }

// search: for the values of c's variables by which it becomes part of d.
type search struct {
	rows  []row
	tests []api.Test // of d
	vals  []api.Term
}

// leastValues: the least values by which c becomes part of d, and whether there are any. Both are valid.
func leastValues(c, d api.Clause) ([]api.Term, bool) {
	s := search{tests: d.Tests}
	if !s.addRow(c.Head, []api.Atom{d.Head}) {
		return nil, false
	}
	of := inOrder(d.Body)
	for _, a := range c.Body {
		if !s.addRow(a, of) {
			return nil, false
		}
	}
	for _, t := range c.Tests {
		s.addTest(t)
	}
	for i := range len(s.rows) {
		s.rows[i].startAgain()
	}
	if !s.find() {
		return nil, false
	}
	return s.vals, true
}

// inOrder: the atoms in rising order, none twice.
func inOrder(l []api.Atom) []api.Atom {
	sorted := slices.Clone(l)
	slices.SortFunc(sorted, term.CompareAtoms)
	return slices.CompactFunc(sorted, func(a, b api.Atom) bool { return term.CompareAtoms(a, b) == 0 })
}

// addRow: false if a can become none of these atoms.
func (s *search) addRow(a api.Atom, of []api.Atom) bool {
	r := row{known: len(s.vals)}
	for _, v := range term.Vars(a) {
		if v < r.known {
			r.leans |= s.firstWith(v)
		} else {
			s.vals = append(s.vals, api.Term{})
		}
	}
	for _, to := range of {
		if way, ok := term.Match(a, to, nil); ok {
			r.ways = append(r.ways, way)
		}
	}
	s.rows = append(s.rows, r)
	return len(r.ways) > 0
}

// addTest: to the row that has the last of its variables; to the head, if it has none.
func (s *search) addTest(t api.Test) {
	var all uint
	for _, side := range []api.Term{t.L, t.R} {
		if term.Variable(side) {
			all |= s.firstWith(side.N)
		}
	}
	at := max(last(all), 0)
	r := &s.rows[at]
	r.tests = append(r.tests, t)
	r.leans |= all &^ (1 << at)
}

// firstWith: the bit of the row in which the variable first stands.
func (s *search) firstWith(v int) uint {
	at := len(s.rows) - 1
	for s.rows[at].known > v {
		at--
	}
	return 1 << at
}

// last: the greatest row of these; below 0, if there is none.
func last(rows uint) int { return bits.Len(rows) - 1 }

// find: whether there are values; the first that are found are the least. For the ways of a row that fit with what the rows ahead have become differ in variables that first stand there, and these have the next numbers, in the order of its places; so the order of the atoms that it becomes is that of the values.
func (s *search) find() bool {
	at := 0
on:
	for at < len(s.rows) {
		r := &s.rows[at]
		for place := range len(r.ways) {
			if place < r.next || !s.fits(r, r.ways[place]) {
				continue
			}
			r.next = place + 1
			at++
			continue on
		}
		at = s.back(at)
		if at < 0 {
			break on
		}
	}
	return at >= 0
}

// back: from a row that has no way left to the last one that is to blame; below 0, if none is. Whatever the rows between became, it would have no way left, so they are passed over.
func (s *search) back(at int) int {
	blame := s.rows[at].blame
	to := last(blame)
	for i := range at - to {
		s.rows[to+1+i].startAgain()
	}
	if to >= 0 {
		// If that one has no way left in its turn, the others that were to blame here are to blame there.
		s.rows[to].blame |= blame &^ (1 << to)
	}
	return to
}

// fits: whether the row can become this beside what the rows ahead became, with tests that are d's or hold. The values are put down.
func (s *search) fits(r *row, way api.Binding) bool {
	for _, b := range way {
		if b.Var < r.known && s.vals[b.Var] != b.To {
			return false
		}
		s.vals[b.Var] = b.To
	}
	for _, t := range r.tests {
		if !s.granted(t) {
			return false
		}
	}
	return true
}

func (s *search) granted(t api.Test) bool {
	t.L, t.R = s.value(t.L), s.value(t.R)
	holds, _ := term.Decide(t)
	return holds || slices.Contains(s.tests, t)
}

func (s *search) value(t api.Term) api.Term {
	if term.Variable(t) {
		return s.vals[t.N]
	}
	return t
}
