package base

// table: different things, numbered from 0 on as they come.
type table[T comparable] struct {
	things  []T
	numbers map[T]int
}

func newTable[T comparable]() table[T] {
	return table[T]{numbers: map[T]int{}}
}

// enter: the thing's number; a thing that is new gets the next one.
func (t *table[T]) enter(thing T) int {
	n, known := t.numbers[thing]
	if !known {
		n = len(t.things)
		t.things = append(t.things, thing)
		t.numbers[thing] = n
	}
	return n
}

// number: the thing's number, and whether it has one.
func (t *table[T]) number(thing T) (int, bool) {
	n, known := t.numbers[thing]
	return n, known
}

// thing: the one with this number.
func (t *table[T]) thing(n int) T { return t.things[n] }
