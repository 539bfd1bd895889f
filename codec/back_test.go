package codec_test

import (
	"slices"
	"testing"

	"hearsay/api"
	"hearsay/clause"
)

// P6.3 to P6.5.

// wantBack: each thing is read from the bytes that it is written as; these are written again; every shorter beginning is short, and whatever stands behind them is left.
func wantBack[T any](t *testing.T, f face[T], things []T) {
	t.Helper()
	for _, x := range things {
		b, err := f.write(x)
		if err != api.OK {
			t.Fatalf("P6.3: %s(%+v) is told %d", f.name, x, err)
		}
		f.wantRead(t, "P6.3", b, x)
		again, _ := f.read(b)
		f.wantWritten(t, "P6.4", again, b)
		for n := range beginnings(len(b)) {
			f.wantRefused(t, "P6.5", b[:n:n], api.ErrShort)
		}
		for _, tail := range [][]byte{{0}, {1}, {0xff}, b} {
			f.wantRefused(t, "P6.5", slices.Concat(b, tail), api.ErrTail)
		}
	}
}

// beginnings: every place ahead of the end; of long bytes only the first and the last thousand, and some between.
func beginnings(length int) func(yield func(int) bool) {
	return func(yield func(int) bool) {
		for n := range length {
			if (n < 1000 || n >= length-1000 || n%97 == 0) && !yield(n) {
				return
			}
		}
	}
}

func TestThereAndBack(t *testing.T) {
	wantBack(t, atoms(), validAtoms())
	wantBack(t, clauses(), validClauses())
	wantBack(t, sets(), validSets())
	wantBack(t, proofs(), writableProofs())
}

// TestSetsComeBackInOrder: none twice, whatever was handed in.
func TestSetsComeBackInOrder(t *testing.T) {
	mixed := slices.Concat(validClauses(), manyClauses(300), shownClauses())
	slices.Reverse(mixed)
	b, err := sets().write(mixed)
	if err != api.OK {
		t.Fatalf("P6.3: Set is told %d", err)
	}
	sets().wantRead(t, "P6.3", b, clause.Set(mixed))
}

// TestEverySmallClauseComesBack: a term of each form at each place; what isn't valid has no bytes, and the bytes that the table would have for it aren't read.
func TestEverySmallClauseComesBack(t *testing.T) {
	over := []api.Term{num(0), num(leastInt), num(greatestInt), txt(""), txt("a"), txt(long(64)), txt(long(65)), v(0), v(1), v(2), v(greatestInt), v(-1), none}
	valid := 0
	for _, a := range over {
		for _, b := range over {
			for _, c := range over {
				for _, d := range []api.Clause{
					rule(says(a, "p", b, c)), rule(atom("p", a), says(b, "q", c)), rule(atom("p"), says(a, "q", b), says(c, "r")),
					with(rule(atom("p", a), atom("q", v(0))), test(api.OpNe, b, c)), with(rule(atom("p"), atom("q", a)), test(api.OpLt, b, c)),
				} {
					bytes := joined(clauseParts(d))
					if err := clause.Check(d); err != api.OK {
						clauses().wantNotWritten(t, "P6.1", d, err)
						clauses().wantRefused(t, "P6.2", bytes, api.ErrCode)
						continue
					}
					valid++
					clauses().wantWritten(t, "P6.1", d, bytes)
					clauses().wantRead(t, "P6.3", bytes, d)
				}
			}
		}
	}
	if valid < 500 {
		t.Errorf("only %d small clauses are valid", valid)
	}
}

// TestDifferentThingsHaveDifferentBytes: and none is the beginning of another.
func TestDifferentThingsHaveDifferentBytes(t *testing.T) {
	cs := clause.Set(validClauses())
	var all []string
	for _, c := range cs {
		b, _ := clauses().write(c)
		all = append(all, string(b))
	}
	slices.Sort(all)
	for i := 1; i < len(all); i++ {
		if len(all[i]) >= len(all[i-1]) && all[i][:len(all[i-1])] == all[i-1] {
			t.Errorf("P6.5: the bytes %x begin with those of another clause", all[i])
		}
	}
}
