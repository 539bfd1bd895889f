package rel_test

import (
	"slices"
	"testing"

	"hearsay/api"
	"hearsay/rel"
)

func TestExample1(t *testing.T) {
	if r, err := rel.New(-1); r != nil || err != api.ErrWidth {
		t.Errorf("P7.1: New(-1) is %v, %d; want nil, ErrWidth", r, err)
	}
	r := newRel(t, 0)
	wantAdd(t, "P7.2", r, nums(), true)
	wantAdd(t, "P7.2", r, nums(), false)
	wantNoRow(t, r, nums(1))
}

func example2(t *testing.T) *rel.Rel {
	t.Helper()
	r := newRel(t, 2)
	wantAdd(t, "P7.2", r, nums(3, 1), true)
	wantAdd(t, "P7.2", r, nums(1, 2), true)
	wantAdd(t, "P7.2", r, nums(3, 1), false)
	wantNoRow(t, r, nums(1))
	return r
}

func TestExample2(t *testing.T) {
	r := example2(t)
	wantPart(t, "P7.4", r, nums(3, 1), 4)
	wantLen(t, r, 4, 2)
	wantLen(t, r, 3, 0)
	wantRows(t, r, 7, nums(1, 2), nums(3, 1))
}

func example3(t *testing.T) *rel.Rel {
	t.Helper()
	r := example2(t)
	wantTurn(t, r, 2)
	wantPart(t, "P7.4", r, nums(3, 1), 2)
	wantAdd(t, "P7.2", r, nums(1, 2), false)
	wantAdd(t, "P7.2", r, nums(3, 0), true)
	return r
}

func TestExample3(t *testing.T) { wantRows(t, example3(t), 4, nums(3, 0)) }

func TestExample4(t *testing.T) {
	r := example3(t)
	wantTurn(t, r, 1)
	wantRows(t, r, 1, nums(1, 2), nums(3, 1))
	wantRows(t, r, 2, nums(3, 0))
	wantRows(t, r, 4)
	wantTurn(t, r, 0)
	wantRows(t, r, 1, nums(1, 2), nums(3, 0), nums(3, 1))
}

func example4(t *testing.T) *rel.Rel {
	t.Helper()
	r := example3(t)
	wantTurn(t, r, 1)
	wantTurn(t, r, 0)
	return r
}

func TestExample5(t *testing.T) {
	r := example4(t)
	threes := rows(nums(3, 0), nums(3, 1))
	wantFind(t, r, 7, nums(0), nums(3), threes...)
	wantFind(t, r, 7, nums(0, 1), nums(3, 1), nums(3, 1))
	wantFind(t, r, 7, nums(0, 0), nums(3, 3), threes...)
	wantFind(t, r, 7, nums(0, 0), nums(3, 1))
	wantFind(t, r, 7, nums(2), nums(1))
	wantFind(t, r, 7, nums(0), nums())
	wantFind(t, r, 0, nums(), nums())
	wantFind(t, r, -1, nums(), nums(), nums(1, 2), nums(3, 0), nums(3, 1))
}

func TestExample6(t *testing.T) {
	r := example4(t)
	seq := r.Find(7, nums(0), nums(3))
	var given [][]int
	for row := range seq {
		if len(given) == 0 {
			wantAdd(t, "P7.6", r, nums(3, 9), true)
			wantTurn(t, r, 1)
		}
		given = append(given, slices.Clone(row))
	}
	if !same(given, rows(nums(3, 0), nums(3, 1))) {
		t.Errorf("P7.6: the range gives %d", given)
	}
	wantGiven(t, "ranged over again", seq, nums(3, 0), nums(3, 1), nums(3, 9))
}
