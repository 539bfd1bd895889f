package rel_test

import (
	"iter"
	"slices"
	"testing"

	"hearsay/rel"
)

// P7.6.

// cube: all rows of three of 0, 1, 2, a third of them in each part.
func cube(t *testing.T) *both {
	t.Helper()
	b := newBoth(t, 3)
	for i, row := range lists(3, 2, 0, 1) {
		if i == 9 || i == 18 {
			b.turn()
		}
		b.add(row)
	}
	return b
}

// TestFindByAnyColumns: by none, some, all; in any order; twice; and by such as are none.
func TestFindByAnyColumns(t *testing.T) {
	b := cube(t)
	b.findAll(3, 0, 2)
	for _, parts := range oddParts() {
		b.find(parts, nums(2), nums(1))
		b.find(parts, nums(2, 0), nums(1, 2))
		b.find(parts, nums(2, 0, 1, 2), nums(1, 2, 0, 1))
	}
	wantFind(t, b.r, 7, nums(2, 0), nums(1, 2), nums(2, 0, 1), nums(2, 1, 1), nums(2, 2, 1))
	wantFind(t, b.r, 7, nums(1, 1, 1, 0, 1, 2), nums(2, 2, 2, 0, 2, 0), nums(0, 2, 0))
	wantFind(t, b.r, 7, nums(1, 1, 1, 0, 1, 2), nums(2, 2, 2, 0, 1, 0))
	wantFind(t, b.r, 7, nums(1, 0, 1), nums(2, 2, 1))
}

func TestFindByWhatIsNoColumn(t *testing.T) {
	b := cube(t)
	for _, c := range []int{-1, -2, -3, 3, 4, 256, 257, 1 << 32, 1<<32 + 1, 1 << 61, leastInt, greatestInt} {
		for n := range 3 {
			wantFind(t, b.r, 7, nums(c), nums(n))
			wantFind(t, b.r, 7, nums(0, c), nums(n, n))
			wantFind(t, b.r, 7, nums(c, 1), nums(n, n))
			wantFind(t, b.r, 7, nums(c, c), nums(n, n))
		}
		wantFind(t, b.r, 7, nums(c), nums(c))
		wantFind(t, b.r, 7, nums(c), nil)
	}
	wide := newRel(t, greatestInt)
	wantFind(t, wide, 7, nums(greatestInt-1, 0, 1<<62), nums(1, 2, 3))
}

func TestFindByUnlikeLengths(t *testing.T) {
	b := cube(t)
	for n := range 5 {
		for m := range 5 {
			if n != m {
				wantFind(t, b.r, 7, []int{0, 1, 2, 0}[:n], []int{1, 1, 1, 1}[:m])
				wantFind(t, b.r, 7, make([]int, n), make([]int, m))
			}
		}
	}
}

// TestListsChangedBehindTheCall: what becomes of cols and key isn't seen: ahead of the range, in its body, behind it.
func TestListsChangedBehindTheCall(t *testing.T) {
	b := cube(t)
	for _, c := range []struct{ cols, key []int }{{nums(2), nums(1)}, {nums(2, 0), nums(1, 2)}, {nums(0, 1, 2), nums(0, 1, 2)}, {nums(1, 1), nums(2, 2)}} {
		want := b.p.find(7, c.cols, c.key)
		cols, key := slices.Clone(c.cols), slices.Clone(c.key)
		seq := b.r.Find(7, cols, key)
		for _, l := range [][]int{cols, key} {
			for i := range l {
				l[i] = 2 - l[i]
			}
		}
		wantGiven(t, "lists changed ahead of the range", seq, want...)
		cols, key = slices.Clone(c.cols), slices.Clone(c.key)
		seq = b.r.Find(7, cols, key)
		n := 0
		for range seq {
			cols[0], key[0] = -1, 77
			n++
		}
		if n != len(want) {
			t.Errorf("P7.6: lists changed in the body: the range gives %d rows, want %d", n, len(want))
		}
		wantGiven(t, "lists changed in the body", seq, want...)
		b.find(7, c.cols, c.key)
	}
	cols, key := nums(5), nums(1)
	none := b.r.Find(7, cols, key)
	cols[0] = 0
	wantGiven(t, "a column that was none when Find was called", none)
}

// TestAskedAheadAndBehind: by the same columns, ahead of rows and turns that come later, and again behind them.
func TestAskedAheadAndBehind(t *testing.T) {
	b := newBoth(t, 3)
	var kept []iter.Seq[[]int]
	ways := [][]int{{}, {0}, {1}, {2}, {1, 0}, {0, 2}, {2, 1, 0}}
	for _, cols := range ways {
		kept = append(kept, b.r.Find(7, cols, make([]int, len(cols))))
	}
	wantAll := func() {
		for i, cols := range ways {
			zeros := make([]int, len(cols))
			wantGiven(t, "asked ahead", kept[i], b.p.find(7, cols, zeros)...)
			for parts := range 8 {
				b.find(parts, cols, zeros)
				b.find(parts, cols, nums(1, 0, 2)[:len(cols)])
			}
		}
	}
	wantAll()
	for n, row := range lists(3, 1, 0, 2) {
		b.add(row)
		wantAll()
		if n%4 == 3 {
			b.turn()
			wantAll()
		}
	}
	b.turn()
	b.turn()
	wantAll()
}

// TestWhatThereIsWhenTheRangeBegins: not when Find is called.
func TestWhatThereIsWhenTheRangeBegins(t *testing.T) {
	r := newRel(t, 2)
	next, young, old := r.Find(4, nums(1), nums(8)), r.Find(2, nums(1), nums(8)), r.Find(1, nums(1), nums(8))
	wantGiven(t, "of no rows", next)
	r.Add(nums(2, 8))
	r.Add(nums(1, 8))
	r.Add(nums(1, 9))
	wantGiven(t, "of the next part", next, nums(1, 8), nums(2, 8))
	wantGiven(t, "of the new part", young)
	r.Turn()
	r.Add(nums(0, 8))
	wantGiven(t, "of the next part, behind a turn", next, nums(0, 8))
	wantGiven(t, "of the new part, behind a turn", young, nums(1, 8), nums(2, 8))
	wantGiven(t, "of the old part, behind a turn", old)
	r.Turn()
	wantGiven(t, "of the next part, behind two", next)
	wantGiven(t, "of the new part, behind two", young, nums(0, 8))
	wantGiven(t, "of the old part, behind two", old, nums(1, 8), nums(2, 8))
}

// TestTheBodyChangesTheRelation: rows come while the body runs, ahead of where the range is and behind it, and turns are made.
func TestTheBodyChangesTheRelation(t *testing.T) {
	for parts := range 8 {
		for _, cols := range [][]int{{}, {0}, {1}, {1, 0}} {
			b := newBoth(t, 2)
			for n := range 6 {
				b.add(nums(0, 10*n))
				b.add(nums(10*n, 0))
				if n%2 == 1 {
					b.turn()
				}
			}
			seq := b.r.Find(parts, cols, make([]int, len(cols)))
			for again := range 3 {
				want := b.p.find(parts, cols, make([]int, len(cols)))
				var given [][]int
				for row := range seq {
					given = append(given, slices.Clone(row))
					for _, d := range []int{-1 - again, 1 + again} {
						b.add(nums(row[0], row[1]+d))
						b.add(nums(row[0]+d, row[1]))
					}
					b.add(row)
					b.turn()
					b.find(7, cols, make([]int, len(cols)))
				}
				if !same(given, want) {
					t.Errorf("P7.6: Find(%d, %d, ..) gives %d amid changes, want %d", parts, cols, given, want)
				}
			}
			b.look()
		}
	}
}

// TestRangesInARange: over the same answer, and over others; each begins anew.
func TestRangesInARange(t *testing.T) {
	b := cube(t)
	seq, all := b.r.Find(7, nums(1), nums(2)), b.r.Find(7, nil, nil)
	want := b.p.find(7, nums(1), nums(2))
	n := 0
	for row := range seq {
		if !slices.Equal(row, want[n]) {
			t.Errorf("P7.6: row %d is %d, want %d", n, row, want[n])
		}
		wantGiven(t, "in a range over itself", seq, b.p.find(7, nums(1), nums(2))...)
		m := 0
		for range all {
			for range seq {
				m++
				if m%5 == 0 {
					break
				}
			}
		}
		wantGiven(t, "behind ranges over itself", all, b.p.find(7, nil, nil)...)
		b.add(nums(n, 2, 9))
		n++
	}
	if n != len(want) {
		t.Errorf("P7.6: the range gives %d rows, want %d", n, len(want))
	}
	b.look()
}

// TestLeftEarly: at each row; ranged over again it begins at the first.
func TestLeftEarly(t *testing.T) {
	b := cube(t)
	for _, cols := range [][]int{{}, {2}, {2, 0}, {0, 1, 2}} {
		zeros := make([]int, len(cols))
		seq, want := b.r.Find(7, cols, zeros), b.p.find(7, cols, zeros)
		for most := range len(want) {
			var given [][]int
			for row := range seq {
				given = append(given, row)
				if len(given) > most {
					break
				}
			}
			if !same(given, want[:most+1]) {
				t.Errorf("P7.6: left behind row %d, the range gave %d; want %d", most, given, want[:most+1])
			}
		}
		wantGiven(t, "ranged over again", seq, want...)
	}
}

// asked: whether there is a row, by a range that returns out of its body.
func asked(r *rel.Rel, cols, key []int) bool {
	for range r.Find(7, cols, key) {
		return true
	}
	return false
}

// TestLeftByReturnAndPanic: the relation can be asked and changed behind it.
func TestLeftByReturnAndPanic(t *testing.T) {
	b := cube(t)
	if !asked(b.r, nums(1), nums(2)) || asked(b.r, nums(1), nums(3)) {
		t.Errorf("P7.6: a range that is left by return")
	}
	func() {
		defer func() { recover() }()
		for range b.r.Find(7, nums(1), nums(2)) {
			panic("out of the body")
		}
	}()
	b.add(nums(1, 2, 3))
	b.turn()
	b.find(7, nums(1), nums(2))
	b.look()
}

// TestPulled: row by row, with changes between; what there is when the first is asked for.
func TestPulled(t *testing.T) {
	b := cube(t)
	next, stop := iter.Pull(b.r.Find(7, nums(0), nums(1)))
	defer stop()
	b.add(nums(1, 7, 7))
	for i, want := range b.p.find(7, nums(0), nums(1)) {
		row, ok := next()
		if !ok || !slices.Equal(row, want) {
			t.Errorf("P7.6: pulled: row %d is %d, %v; want %d", i, row, ok, want)
		}
		b.add(nums(1, 8, i))
		b.turn()
		b.find(7, nums(0), nums(1))
	}
	if row, ok := next(); ok {
		t.Errorf("P7.6: pulled: %d behind the last row", row)
	}
}

// TestByChance: relations of all sorts, held against the plain one at every step.
func TestByChance(t *testing.T) {
	for seed := range int64(300) {
		c := newChosen(seed, leastInt, -1, 0, 1, 2, 256, greatestInt)
		c.of = c.of[c.Intn(5):]
		b := newBoth(t, c.Intn(5))
		for range 30 {
			c.change(b)
			for range c.Intn(4) {
				c.ask(b)
			}
		}
		b.look()
	}
}

// TestAmidByChance: the same, with changes and questions in the bodies of ranges, which give what there was when they began.
func TestAmidByChance(t *testing.T) {
	for seed := range int64(200) {
		c := newChosen(seed, 0, 1, 2)
		b := newBoth(t, 1+c.Intn(3))
		for range 10 {
			c.change(b)
			parts, n := c.Intn(8), c.Intn(2)
			cols, key := c.columns(n, b.p.width), c.list(n)
			want := b.p.find(parts, cols, key)
			var given [][]int
			for row := range b.r.Find(parts, cols, key) {
				given = append(given, row)
				c.change(b)
				c.ask(b)
			}
			if !same(given, want) {
				t.Errorf("P7.6: Find(%d, %d, %d) gives %d amid changes, want %d", parts, cols, key, given, want)
			}
		}
		b.look()
	}
}
