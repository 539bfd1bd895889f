package base_test

import (
	"testing"

	"hearsay/base"
)

// The chapter's examples, row by row: each base is as the rows ahead leave it.

func example1(t *testing.T) *base.Base {
	t.Helper()
	s := newBase(t)
	wantAdd(t, s, p(a), true)
	wantAdd(t, s, p(a), false)
	wantNoFact(t, s, p(v(0)))
	wantNoFact(t, s, by(num(5), p(a)))
	return s
}

func TestExample1(t *testing.T) { example1(t) }

func TestExample2(t *testing.T) {
	s := example1(t)
	wantPart(t, s, p(a), 4)
	wantLen(t, s, 4, 1)
	wantLen(t, s, 3, 0)
	wantFacts(t, s, 7, p(a))
}

func example3(t *testing.T) *base.Base {
	t.Helper()
	s := example1(t)
	wantAdd(t, s, by(ann, p(a)), true)
	wantAdd(t, s, p(a, b), true)
	wantAdd(t, s, q(), true)
	wantTurn(t, s, 4)
	return s
}

func TestExample3(t *testing.T) { example3(t) }

func example4(t *testing.T) *base.Base {
	t.Helper()
	s := example3(t)
	wantAdd(t, s, p(b), true)
	wantAdd(t, s, p(a), false)
	return s
}

func TestExample4(t *testing.T) { example4(t) }

func TestExample5(t *testing.T) {
	s := example4(t)
	wantPart(t, s, p(a), 2)
	wantPart(t, s, p(b), 4)
	wantPart(t, s, p(c), 0)
	wantPart(t, s, p(v(0)), 0)
}

func TestExample6(t *testing.T) {
	s := example4(t)
	wantFacts(t, s, 2, p(a), by(ann, p(a)), p(a, b), q())
	wantFacts(t, s, 6, p(a), p(b), by(ann, p(a)), p(a, b), q())
}

func TestExample7(t *testing.T) {
	wantPreds(t, example4(t), pred("p", 1), pred("p", 2), pred("q", 0))
}

func TestExample8(t *testing.T) {
	s := example4(t)
	wantFind(t, s, 7, p(v(0)), p(a), p(b))
	wantFind(t, s, 7, by(v(1), p(v(0))), by(ann, p(a)))
	wantFind(t, s, 2, p(v(0)), p(a))
	wantFind(t, s, 1, p(v(0)))
}

func TestExample9(t *testing.T) {
	s := example4(t)
	wantFind(t, s, 7, p(v(0), v(0)))
	wantFind(t, s, 7, p(v(0), b), p(a, b))
	wantFind(t, s, 7, p(a), p(a))
	wantFind(t, s, 7, q(v(0)))
	wantFind(t, s, 7, atom("P", v(0)))
}

func TestExample10(t *testing.T) {
	s := example4(t)
	wantTurn(t, s, 1)
	wantTurn(t, s, 0)
	wantLen(t, s, 1, 5)
	wantLen(t, s, 2, 0)
	wantLen(t, s, -1, 5)
}
