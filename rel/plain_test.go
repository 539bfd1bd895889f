package rel_test

import (
	"math/rand"
	"slices"
	"testing"

	"hearsay/api"
	"hearsay/rel"
)

// plain: a relation as the chapter tells it: a list of rows, each with its part, gone through from end to end by every call.
type plain struct {
	width int
	rows  []placed
}

type placed struct {
	row  []int
	part int
}

func (p *plain) part(row []int) int {
	for _, x := range p.rows {
		if slices.Equal(x.row, row) {
			return x.part
		}
	}
	return 0
}

func (p *plain) add(row []int) (bool, api.Errno) {
	if len(row) != p.width {
		return false, api.ErrWidth
	}
	if p.part(row) != 0 {
		return false, api.OK
	}
	p.rows = append(p.rows, placed{slices.Clone(row), 4})
	return true, api.OK
}

func (p *plain) turn() int {
	n := 0
	for i, x := range p.rows {
		switch x.part {
		case 2:
			p.rows[i].part = 1
		case 4:
			p.rows[i].part = 2
			n++
		}
	}
	return n
}

// names: whether the parts name this one, told by taking the number apart.
func names(parts, part int) bool {
	rest := parts % 8
	if rest < 0 {
		rest += 8
	}
	for _, p := range []int{4, 2, 1} {
		if rest >= p {
			if p == part {
				return true
			}
			rest -= p
		}
	}
	return false
}

func (p *plain) find(parts int, cols, key []int) [][]int {
	var out [][]int
	if len(cols) != len(key) {
		return nil
	}
	for _, x := range p.rows {
		if names(parts, x.part) && p.has(x.row, cols, key) {
			out = append(out, x.row)
		}
	}
	slices.SortFunc(out, compare)
	return out
}

func (p *plain) has(row, cols, key []int) bool {
	for i, c := range cols {
		if c < 0 || c >= p.width || row[c] != key[i] {
			return false
		}
	}
	return true
}

// compare: the first number that differs decides.
func compare(a, b []int) int {
	for i := range a {
		if a[i] < b[i] {
			return -1
		}
		if a[i] > b[i] {
			return 1
		}
	}
	return 0
}

// both: a relation, and the plain one to which the same is done.
type both struct {
	t *testing.T
	r *rel.Rel
	p *plain
}

func newBoth(t *testing.T, width int) *both {
	t.Helper()
	return &both{t, newRel(t, width), &plain{width: width}}
}

func (b *both) add(row []int) {
	b.t.Helper()
	came, err := b.r.Add(row)
	wantCame, wantErr := b.p.add(row)
	if came != wantCame || err != wantErr {
		b.t.Errorf("P7.2: Add(%d) is %v, %d; want %v, %d", row, came, err, wantCame, wantErr)
	}
}

func (b *both) turn() {
	b.t.Helper()
	wantTurn(b.t, b.r, b.p.turn())
}

func (b *both) find(parts int, cols, key []int) {
	b.t.Helper()
	wantFind(b.t, b.r, parts, cols, key, b.p.find(parts, cols, key)...)
}

// oddParts: every sum, and numbers with bits above 4's.
func oddParts() []int {
	return []int{0, 1, 2, 3, 4, 5, 6, 7, 8, 9, 11, 12, 15, 16, 26, 255, 256, 1 << 32, 1<<32 + 4, -1, -2, -3, -4, -5, -6, -7, -8, -9, -16, leastInt, leastInt + 1, leastInt + 6, greatestInt, greatestInt - 1, greatestInt - 7}
}

// look: all that can be asked of the parts.
func (b *both) look() {
	b.t.Helper()
	for _, x := range b.p.rows {
		wantPart(b.t, "P7.4", b.r, x.row, x.part)
	}
	for _, parts := range oddParts() {
		want := b.p.find(parts, nil, nil)
		wantLen(b.t, b.r, parts, len(want))
		wantRows(b.t, b.r, parts, want...)
	}
	wantLen(b.t, b.r, 7, len(b.p.rows))
}

// lists: all lists of n of these numbers.
func lists(n int, of ...int) [][]int {
	out := rows(nil)
	for range n {
		var longer [][]int
		for _, l := range out {
			for _, x := range of {
				longer = append(longer, append(slices.Clone(l), x))
			}
		}
		out = longer
	}
	return out
}

// findAll: by every list of up to most columns (those just out of the width too), with every key of these numbers.
func (b *both) findAll(most int, of ...int) {
	b.t.Helper()
	var cols []int
	for c := -1; c <= b.p.width; c++ {
		cols = append(cols, c)
	}
	for n := range most + 1 {
		for _, key := range lists(n, of...) {
			for _, c := range lists(n, cols...) {
				b.find(7, c, key)
				b.find(n+1, c, key)
			}
		}
	}
}

// chosen: what is done to a relation by chance, the same at every run. Rows have numbers of one short list, so that they come again, and share numbers.
type chosen struct {
	*rand.Rand
	of []int
}

func newChosen(seed int64, of ...int) *chosen { return &chosen{rand.New(rand.NewSource(seed)), of} }

func (c *chosen) list(n int) []int {
	out := make([]int, n)
	for i := range out {
		out[i] = c.of[c.Intn(len(c.of))]
	}
	return out
}

func (c *chosen) columns(n, width int) []int {
	out := make([]int, n)
	for i := range out {
		out[i] = c.Intn(width + 1)
		if out[i] == width && c.Intn(5) > 0 {
			out[i] = 0
		}
	}
	return out
}

// change: rows come, or a turn is made.
func (c *chosen) change(b *both) {
	b.t.Helper()
	if c.Intn(4) == 0 {
		b.turn()
		return
	}
	for range c.Intn(4) {
		b.add(c.list(b.p.width))
	}
	if c.Intn(9) == 0 {
		b.add(c.list(c.Intn(b.p.width + 3)))
	}
}

func (c *chosen) ask(b *both) {
	b.t.Helper()
	n := c.Intn(b.p.width + 2)
	b.find(c.Intn(9)-1, c.columns(n, b.p.width), c.list(n))
}
