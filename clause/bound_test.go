package clause

import "testing"

// P3.10: just below 2^62, at it and above it, with counts that no list in a test can have.
func TestBoundOf(t *testing.T) {
	const top = 1 << 62
	for _, x := range []struct{ preds, consts, arity, want int }{
		{0, 0, 0, 1}, {0, 9, 9, 1},
		{top - 3, 0, 0, top - 2}, {top - 2, 0, 0, top - 1}, {top - 1, 0, 0, top}, {top, 0, 0, top},
		{1, top - 3, 0, top - 1}, {1, top - 2, 0, top}, {1, top - 1, 0, top}, {1, top, 0, top}, {2, top - 1, 0, top},
		{1<<31 + 1, 1<<31 - 2, 0, top}, {1<<31 + 1, 1<<31 - 3, 0, top - 1<<31 - 1}, {1<<31 + 1, 1<<31 - 1, 0, top}, {1 << 31, 1<<31 - 2, 0, top - 1<<31 + 1},
		{1, 1<<31 - 1, 1, top}, {1, 1<<31 - 2, 1, top - 1<<32 + 2}, {1, 1<<31 - 1, 2, top}, {1, 1 << 32, 1, top},
	} {
		if n := boundOf(x.preds, x.consts, x.arity); n != x.want {
			t.Errorf("boundOf(%d, %d, %d): %d, want %d", x.preds, x.consts, x.arity, n, x.want)
		}
	}
}
