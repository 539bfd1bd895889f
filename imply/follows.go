package imply

import (
	"iter"
	"slices"

	"hearsay/api"
	"hearsay/clause"
	"hearsay/eval"
)

// refused: why nothing is asked of these clauses: Check's error of the least of the first list that isn't valid, then of the next list's; ErrTests, if all are valid and one of them has a test; OK, if nothing speaks against it.
func refused(lists ...[]api.Clause) api.Errno {
	tests := false
	for _, l := range lists {
		for _, c := range clause.Set(l) {
			if err := clause.Check(c); err != api.OK {
				return err
			}
			tests = tests || len(c.Tests) > 0
		}
	}
	if tests {
		return api.ErrTests
	}
	return api.OK
}

// follows: whether the clause's frozen head follows from the clauses and its frozen body; all of them are valid and without tests. ErrMany, ErrFacts.
func follows(cs []api.Clause, c api.Clause) (bool, api.Errno) {
	f := freeze(cs, c)
	with := slices.Clone(cs)
	for _, a := range f.atoms(c.Body) {
		with = append(with, api.Clause{Head: a})
	}
	m, err := eval.Whole(with)
	if err != api.OK {
		return false, err
	}
	return len(eval.Answers(m, f.atom(c.Head))) > 0, api.OK
}

// allFollow: whether each of the others follows from the clauses, asked in order up to the first that doesn't. With an error it is false.
func allFollow(cs, others []api.Clause) (bool, api.Errno) {
	for _, c := range clause.Set(others) {
		if yes, err := follows(cs, c); !yes {
			return false, err
		}
	}
	return true, api.OK
}

// lessOne: each clause in its turn, with all others that are there by then. The loop's body may put these in the list's place, if the turns go from the last to the first: what stands ahead keeps its place.
func lessOne(there *[]api.Clause, turns iter.Seq2[int, api.Clause]) iter.Seq2[api.Clause, []api.Clause] {
	return func(yield func(api.Clause, []api.Clause) bool) {
		for place, c := range turns {
			others := slices.Delete(slices.Clone(*there), place, place+1)
			if !yield(c, others) {
				return
			}
		}
	}
}
