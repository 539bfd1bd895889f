package rel_test

import (
	"slices"
	"testing"

	"hearsay/api"
	"hearsay/rel"
)

// P7.1 to P7.5, P7.7.

func TestNoWidthBelow0(t *testing.T) {
	for _, n := range []int{-1, -2, -8, -1 << 31, -1 << 32, leastInt, leastInt + 1} {
		if r, err := rel.New(n); r != nil || err != api.ErrWidth {
			t.Errorf("P7.1: New(%d) is %v, %d; want nil, ErrWidth", n, r, err)
		}
	}
}

func TestNewHasNoRows(t *testing.T) {
	for _, width := range []int{0, 1, 2, 8, 9, 1000, 1 << 31, 1 << 40, greatestInt - 1, greatestInt} {
		r := newRel(t, width)
		for _, parts := range oddParts() {
			wantLen(t, r, parts, 0)
			wantRows(t, r, parts)
			wantFind(t, r, parts, nil, nil)
			wantFind(t, r, parts, nums(0), nums(0))
			wantFind(t, r, parts, nums(width-1, width), nums(0, 0))
		}
		wantPart(t, "P7.1", r, nil, 0)
		wantPart(t, "P7.1", r, nums(0), 0)
		wantTurn(t, r, 0)
	}
}

// TestGreatWidths: rows of a thousand numbers and more, unlike in one place alone.
func TestGreatWidths(t *testing.T) {
	for _, width := range []int{256, 257, 1000, 70000} {
		b := newBoth(t, width)
		for _, c := range []int{0, 1, 255, width / 2, width - 1} {
			row := make([]int, width)
			row[c] = -7
			b.add(row)
			b.add(row)
			b.find(7, nums(c), nums(-7))
			b.find(7, nums(width-1, 0, c), nums(0, 0, -7))
			b.find(7, nums(width), nums(0))
		}
		b.turn()
		wantNoRow(t, b.r, make([]int, width-1))
		wantNoRow(t, b.r, make([]int, width+1))
		b.find(7, nums(0, 1, 255), nums(0, 0, 0))
		wantLen(t, b.r, 7, len(b.p.rows))
		wantRows(t, b.r, 2, b.p.find(2, nil, nil)...)
	}
}

// TestTheOneRowOfWidth0: it goes through the parts as others do.
func TestTheOneRowOfWidth0(t *testing.T) {
	b := newBoth(t, 0)
	for n := range 4 {
		b.look()
		b.findAll(2, 0, 1)
		b.add(nil)
		b.add(nums())
		b.add(nums(0))
		wantPart(t, "P7.4", b.r, nil, b.p.part(nil))
		wantPart(t, "P7.4", b.r, nums(0), 0)
		b.look()
		b.turn()
		wantPart(t, "P7.7", b.r, nums(), []int{2, 1, 1, 1}[n])
	}
}

// TestRowsOfAnotherWidth: they are refused, and change nothing.
func TestRowsOfAnotherWidth(t *testing.T) {
	for width := range 5 {
		b := newBoth(t, width)
		for range 3 {
			for _, n := range []int{0, 1, 2, 3, 4, 5, 8, 100} {
				b.add(make([]int, n))
				if n != width {
					wantNoRow(t, b.r, make([]int, n))
					wantPart(t, "P7.4", b.r, make([]int, n), 0)
				}
			}
			b.look()
			b.turn()
		}
		wantLen(t, b.r, 7, 1)
	}
}

// TestWhereARowIs: added again in each part, it stays there; another one is in none.
func TestWhereARowIs(t *testing.T) {
	r := relOf(t, 2, nums(5, -5))
	for _, part := range []int{api.PartNext, api.PartNew, api.PartOld, api.PartOld} {
		for range 2 {
			wantPart(t, "P7.7", r, nums(5, -5), part)
			wantAdd(t, "P7.2", r, nums(5, -5), false)
			wantLen(t, r, 7, 1)
			wantLen(t, r, part, 1)
			wantLen(t, r, 7-part, 0)
			wantRows(t, r, part, nums(5, -5))
			wantRows(t, r, 7-part)
		}
		for _, other := range rows(nums(-5, 5), nums(5, 5), nums(-5, -5), nums(5), nums(), nums(5, -5, 0), nums(5, -5, 5, -5)) {
			wantPart(t, "P7.4", r, other, 0)
		}
		r.Turn()
	}
}

// edges: the least and the greatest numbers, and such as differ in one byte, or in their sign, alone.
func edges() []int {
	out := []int{leastInt, leastInt + 1, -1 << 32, -257, -256, -255, -2, -1, 0, 1, 2, 127, 128, 255, 256, 257, 1<<31 - 1, 1 << 31, 1<<32 - 1, 1 << 32, 1<<32 + 1, greatestInt - 1, greatestInt}
	for shift := 8; shift < 63; shift += 8 {
		out = append(out, 3<<shift)
	}
	return out
}

func TestEveryNumberIsAnother(t *testing.T) {
	b := newBoth(t, 1)
	for _, n := range edges() {
		wantPart(t, "P7.4", b.r, nums(n), 0)
		b.add(nums(n))
		b.add(nums(n))
	}
	wantLen(t, b.r, 7, len(edges()))
	b.turn()
	for _, n := range edges() {
		b.add(nums(n))
		wantPart(t, "P7.4", b.r, nums(n), 2)
		wantFind(t, b.r, 7, nums(0), nums(n), nums(n))
		b.find(7, nums(0), nums(n+7))
	}
	b.look()
}

// TestEveryPairIsAnother: of numbers whose bytes, laid one behind the other, might be taken for those of others.
func TestEveryPairIsAnother(t *testing.T) {
	b := newBoth(t, 2)
	of := edges()
	for _, row := range lists(2, of...) {
		wantAdd(t, "P7.2", b.r, row, true)
		b.p.rows = append(b.p.rows, placed{row, 4})
	}
	wantLen(t, b.r, 4, len(of)*len(of))
	wantRows(t, b.r, 7, b.p.find(7, nil, nil)...)
	for _, n := range of {
		b.find(4, nums(0), nums(n))
		b.find(4, nums(1), nums(n))
		b.find(4, nums(1, 0), nums(n, -1))
	}
}

// TestParts: rows in all three parts, asked for by every number.
func TestParts(t *testing.T) {
	b := newBoth(t, 1)
	for _, n := range []int{6, 2, 9} {
		b.add(nums(n))
	}
	b.turn()
	b.add(nums(1))
	b.add(nums(7))
	b.turn()
	b.add(nums(4))
	b.look()
	old, young, next := rows(nums(2), nums(6), nums(9)), rows(nums(1), nums(7)), rows(nums(4))
	for _, c := range []struct {
		parts int
		want  [][]int
	}{
		{0, nil}, {1, old}, {2, young}, {3, rows(nums(1), nums(2), nums(6), nums(7), nums(9))}, {4, next}, {5, rows(nums(2), nums(4), nums(6), nums(9))}, {6, rows(nums(1), nums(4), nums(7))},
		{7, rows(nums(1), nums(2), nums(4), nums(6), nums(7), nums(9))}, {8, nil}, {9, old}, {10, young}, {12, next}, {16, nil}, {-8, nil}, {-7, old}, {-6, young}, {-4, next}, {leastInt, nil}, {leastInt + 2, young}, {greatestInt - 3, next}, {greatestInt - 7, nil},
		{-1, rows(nums(1), nums(2), nums(4), nums(6), nums(7), nums(9))}, {greatestInt, rows(nums(1), nums(2), nums(4), nums(6), nums(7), nums(9))},
	} {
		wantLen(t, b.r, c.parts, len(c.want))
		wantRows(t, b.r, c.parts, c.want...)
		wantFind(t, b.r, c.parts, nil, nil, c.want...)
	}
}

func TestTurns(t *testing.T) {
	b := newBoth(t, 1)
	for range 3 {
		wantTurn(t, b.r, 0)
	}
	for n, many := range []int{1, 0, 3, 0, 0, 2, 5, 1, 0} {
		for i := range many {
			b.add(nums(10*n + i))
			b.add(nums(10*n + i))
			b.add(nums(0))
		}
		wantTurn(t, b.r, many)
		b.p.turn()
		b.look()
	}
	wantLen(t, b.r, 7, 12)
	wantTurn(t, b.r, 0)
	wantTurn(t, b.r, 0)
	wantLen(t, b.r, 1, 12)
}

// orders: all orders in which the rows may come.
func orders(l [][]int) [][][]int {
	if len(l) == 0 {
		return [][][]int{nil}
	}
	var out [][][]int
	for i := range l {
		for _, o := range orders(slices.Concat(l[:i], l[i+1:])) {
			out = append(out, append(rows(l[i]), o...))
		}
	}
	return out
}

// TestRisingWhateverTheOrder: of coming, and wherever a turn is made.
func TestRisingWhateverTheOrder(t *testing.T) {
	rising := rows(nums(leastInt, 7), nums(-1, greatestInt), nums(0, -1), nums(0, 0), nums(greatestInt, leastInt))
	for _, order := range orders(rising) {
		for at := range len(order) + 1 {
			r := newRel(t, 2)
			for i, row := range order {
				if i == at || i == 3 {
					r.Turn()
				}
				wantAdd(t, "P7.2", r, row, true)
			}
			wantRows(t, r, 7, rising...)
			wantFind(t, r, 7, nil, nil, rising...)
			wantFind(t, r, 7, nums(0), nums(0), nums(0, -1), nums(0, 0))
		}
	}
}

// TestHoweverItCameToBe: by every list of up to six of these steps: one row comes, another comes, a turn, a look by a column.
func TestHoweverItCameToBe(t *testing.T) {
	for n := range 7 {
		for _, steps := range lists(n, 0, 1, 2, 3) {
			b := newBoth(t, 1)
			for _, s := range steps {
				switch s {
				case 0, 1:
					b.add(nums(s))
				case 2:
					b.turn()
				case 3:
					b.find(7, nums(0), nums(1))
				}
			}
			b.look()
			b.findAll(1, 0, 1, 2)
		}
	}
}

// TestTwoRelations: they have nothing to do with one another.
func TestTwoRelations(t *testing.T) {
	a, b := relOf(t, 1, nums(1), nums(2)), relOf(t, 1, nums(2))
	wantTurn(t, a, 2)
	wantFind(t, a, 7, nums(0), nums(2), nums(2))
	wantPart(t, "R4", b, nums(1), 0)
	wantPart(t, "R4", b, nums(2), 4)
	wantAdd(t, "R4", b, nums(1), true)
	wantFind(t, b, 7, nums(0), nums(1), nums(1))
	wantRows(t, a, 2, nums(1), nums(2))
	wantRows(t, a, 4)
	wantRows(t, b, 4, nums(1), nums(2))
}
