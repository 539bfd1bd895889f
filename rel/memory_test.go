package rel_test

import (
	"slices"
	"sync"
	"testing"
)

// R3, R4.

// spared: a copy of l with spare room behind it that isn't zero.
func spared(l []int) []int { return append(slices.Clone(l), 71, -3, 5, 9)[:len(l)] }

// whole: all of a list, its spare room too, in new memory.
func whole(l []int) []int { return slices.Clone(l[:cap(l)]) }

func fill(l []int, mark int) {
	l = l[:cap(l)]
	for i := range l {
		l[i] = mark
	}
}

func holds(l []int, mark int) bool {
	return !slices.ContainsFunc(l[:cap(l)], func(n int) bool { return n != mark })
}

// wantApart: no two of the lists share memory, their spare room too. All are written over.
func wantApart(t *testing.T, what string, lists [][]int) {
	t.Helper()
	for i, l := range lists {
		fill(l, i+1000)
	}
	for i, l := range lists {
		if !holds(l, i+1000) {
			t.Errorf("R3: %s: two rows share memory", what)
			return
		}
	}
}

// TestArgumentsStay: as they are, their spare room too; and what becomes of them isn't seen.
func TestArgumentsStay(t *testing.T) {
	b := newBoth(t, 3)
	for _, given := range slices.Concat(lists(3, 2, 0, 1), lists(3, 1, 2), lists(2, 0, 1), lists(4, 0, 1)) {
		row := spared(given)
		before := whole(row)
		b.add(row)
		b.r.Part(row)
		if !slices.Equal(whole(row), before) {
			t.Errorf("R3: Add or Part changed what it was given: %d", given)
		}
		fill(row, 1)
		b.find(7, nums(0), nums(given[0]))
		fill(row, 77)
	}
	b.look()
	b.turn()
	b.findAll(2, 0, 1, 77)
	for _, c := range []struct{ cols, key []int }{{nums(), nums()}, {nums(2, 0, 1), nums(1, 2, 0)}, {nums(1, 1, 0), nums(2, 2, 0)}, {nums(1, 0, 1), nums(2, 0, 1)}, {nums(5, 0), nums(2, 1)}, {nums(2, 1, 0), nums(1, 2)}} {
		cols, key := spared(c.cols), spared(c.key)
		colsBefore, keyBefore := whole(cols), whole(key)
		want := b.p.find(7, c.cols, c.key)
		seq := b.r.Find(7, cols, key)
		wantGiven(t, "spare room", seq, want...)
		wantGiven(t, "spare room, again", seq, want...)
		if !slices.Equal(whole(cols), colsBefore) || !slices.Equal(whole(key), keyBefore) {
			t.Errorf("R3: Find changed what it was given: %d, %d", c.cols, c.key)
		}
		fill(cols, 1)
		fill(key, 1)
		wantGiven(t, "lists written over", seq, want...)
		b.find(7, c.cols, c.key)
	}
}

// TestAnswersAreNewMemory: every row is a list of its own, of two answers too, and none is the relation's.
func TestAnswersAreNewMemory(t *testing.T) {
	b := cube(t)
	var all [][]int
	for parts := range 8 {
		for range 2 {
			all = append(all, b.r.Rows(parts)...)
		}
		for _, cols := range [][]int{{}, {1}, {2, 0}, {1, 1}, {0, 1, 2}} {
			seq := b.r.Find(parts, cols, make([]int, len(cols)))
			for range 2 {
				all = append(all, slices.Collect(seq)...)
			}
		}
	}
	wantApart(t, "Rows and Find", all)
	b.look()
	b.findAll(2, 0, 1, 2)
	b.turn()
	for _, row := range lists(3, 0, 1, 2) {
		b.add(row)
	}
	b.look()
}

// TestTheListOfRowsIsNew: rows put in the place of others, and into its spare room, aren't seen.
func TestTheListOfRowsIsNew(t *testing.T) {
	b := cube(t)
	for range 3 {
		first, second := b.r.Rows(7), b.r.Rows(7)
		want := b.p.find(7, nil, nil)
		l := first[:cap(first)]
		for i := range l {
			l[i] = nums(9, 9, 9)
		}
		if !same(second, want) {
			t.Errorf("R3: two answers of Rows share memory")
		}
		b.look()
		b.turn()
	}
}

// TestRowsWrittenOverInTheBody: the rest of the range, and the relation, stay as they are.
func TestRowsWrittenOverInTheBody(t *testing.T) {
	b := cube(t)
	for _, cols := range [][]int{{}, {1}, {2, 0}} {
		want := b.p.find(7, cols, make([]int, len(cols)))
		n := 0
		for row := range b.r.Find(7, cols, make([]int, len(cols))) {
			if !slices.Equal(row, want[n]) {
				t.Errorf("R3: row %d is %d, want %d", n, row, want[n])
			}
			fill(row, 99)
			n++
		}
		b.look()
		b.find(7, cols, make([]int, len(cols)))
	}
}

// TestAskedAtOneTime: by several, and for the first time by the same and by other columns; indexes that are asked for the first time behind new rows too.
func TestAskedAtOneTime(t *testing.T) {
	for range 20 {
		b := cube(t)
		for range 3 {
			var wait sync.WaitGroup
			for first := range 8 {
				wait.Go(func() {
					for n := range 8 {
						cols := [][]int{{}, {0}, {1}, {2}, {0, 1}, {1, 2}, {2, 0}, {0, 1, 2}}[(first/2+n)%8]
						b.find(7, cols, make([]int, len(cols)))
						b.find(first, cols, nums(1, 2, 0)[:len(cols)])
					}
					b.look()
				})
			}
			wait.Wait()
			b.turn()
			for _, row := range lists(3, 0, 3) {
				b.add(row)
			}
		}
	}
}
