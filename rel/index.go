package rel

import (
	"cmp"
	"slices"

	"hearsay/api"
)

// index: the rows by what stands in some columns.
type index struct {
	cols   []int            // rising, none twice
	places map[string][]int // from the text of the numbers in these columns to the places of the rows that have them, rising
	taken  int              // how many rows it has taken in: those that came later are still to come
}

// takeIn: the rows that came since the index was last asked.
func (x *index) takeIn(rows [][]int) {
	for place := x.taken; place < len(rows); place++ {
		nums := text(x.numbersOf(rows[place]))
		x.places[nums] = append(x.places[nums], place)
	}
	x.taken = len(rows)
}

func (x *index) numbersOf(row []int) []int {
	nums := make([]int, len(x.cols))
	for i, c := range x.cols {
		nums[i] = row[c]
	}
	return nums
}

// cell: a column and the number that is to stand in it.
type cell struct{ col, num int }

func compareCells(a, b cell) int {
	return cmp.Or(cmp.Compare(a.col, b.col), cmp.Compare(a.num, b.num))
}

// settle: the columns as a set, rising, with their numbers, so that an index serves however it is asked for; false, if no row can have these.
func (r *Rel) settle(cols, key []int) (set, nums []int, possible bool) {
	if len(cols) != len(key) {
		return nil, nil, false
	}
	cells := make([]cell, len(cols))
	for i, c := range cols {
		if c < 0 || c >= r.width {
			return nil, nil, false
		}
		cells[i] = cell{c, key[i]}
	}
	slices.SortFunc(cells, compareCells)
	for i, c := range slices.Compact(cells) {
		if i > 0 && set[i-1] == c.col {
			return nil, nil, false
		}
		set = append(set, c.col)
		nums = append(nums, c.num)
	}
	return set, nums, true
}

// found: the parts' rows that have the numbers in the set of columns, in rising order, in a list that no later change reaches; the rows are the relation's own.
func (r *Rel) found(parts int, set, nums []int) [][]int {
	places := r.placesOf(set, nums)
	var rows [][]int
	for _, s := range r.stretches(parts) {
		for _, place := range s.within(places) {
			rows = append(rows, r.rows[place])
		}
	}
	slices.SortFunc(rows, slices.Compare)
	return rows
}

// placesOf: the places of all rows that have the numbers in the set of columns, rising.
func (r *Rel) placesOf(set, nums []int) []int {
	name := text(set)
	r.lock.Lock()
	defer r.lock.Unlock()
	x := r.indexes[name]
	if x == nil {
		x = &index{cols: set, places: map[string][]int{}}
		r.indexes[name] = x
	}
	x.takeIn(r.rows)
	return x.places[text(nums)]
}

// stretch: the places from one up to another that isn't with them.
type stretch struct{ from, end int }

// stretches: where the rows of the parts stand, part by part.
func (r *Rel) stretches(parts int) []stretch {
	var l []stretch
	if parts&api.PartOld != 0 {
		l = append(l, stretch{0, r.newFrom})
	}
	if parts&api.PartNew != 0 {
		l = append(l, stretch{r.newFrom, r.nextFrom})
	}
	if parts&api.PartNext != 0 {
		l = append(l, stretch{r.nextFrom, len(r.rows)})
	}
	return l
}

// within: those of rising places that are in the stretch.
func (s stretch) within(places []int) []int {
	from, _ := slices.BinarySearch(places, s.from)
	end, _ := slices.BinarySearch(places, s.end)
	return places[from:end]
}

// text: numbers as a map's key, for a list can't be one; no two lists have the same text.
func text(nums []int) string {
	b := make([]byte, 0, 8*len(nums))
	for _, n := range nums {
		for shift := 56; shift >= 0; shift -= 8 {
			b = append(b, byte(n>>shift))
		}
	}
	return string(b)
}
