package term_test

import (
	"cmp"
	"testing"

	"hearsay/api"
	"hearsay/term"
)

// P2.1.

func TestWhatATermIs(t *testing.T) {
	for _, c := range []struct {
		t                    api.Term
		konst, who, variable bool
	}{
		{num(5), true, false, false},
		{num(0), true, false, false},
		{num(-5), true, false, false},
		{num(leastInt), true, false, false},
		{num(greatestInt), true, false, false},
		{txt(""), true, false, false},
		{ann, true, true, false},
		{txt("says"), true, true, false},
		{txt("\x00"), true, true, false},
		{txt("\xff\xfe \n"), true, true, false},
		{txt(long(64)), true, true, false},
		{txt(long(65)), false, false, false},
		{none, false, false, false},
		{x(0), false, false, true},
		{x(7), false, false, true},
		{x(greatestInt), false, false, true},
		{x(-1), false, false, false},
		{api.Term{Kind: api.KindVar, N: 1, S: "x"}, false, false, false},
		{api.Term{Kind: api.KindNum, N: 5, S: "x"}, false, false, false},
		{api.Term{Kind: api.KindText, N: 5, S: "x"}, false, false, false},
	} {
		if got := term.Const(c.t); got != c.konst {
			t.Errorf("Const(%v) is %v", c.t, got)
		}
		if got := term.Principal(c.t); got != c.who {
			t.Errorf("Principal(%v) is %v", c.t, got)
		}
		if got := term.Variable(c.t); got != c.variable {
			t.Errorf("Variable(%v) is %v", c.t, got)
		}
	}
}

func TestATermThatIsValidNowhereIsNothing(t *testing.T) {
	for _, u := range validNowhere() {
		if term.Const(u) || term.Principal(u) || term.Variable(u) {
			t.Errorf("%v is taken for something", u)
		}
	}
}

// P2.2.

func TestCompareOfTheExamples(t *testing.T) {
	for _, c := range []struct {
		a, b api.Term
		want int
	}{
		{num(5), num(40), -1}, {txt("5"), num(40), 1}, {txt("ab"), txt("abc"), -1}, {x(3), txt("z"), 1},
	} {
		if got := term.Compare(c.a, c.b); got != c.want {
			t.Errorf("Compare(%v, %v) is %d", c.a, c.b, got)
		}
	}
}

func TestCompareIsOneOrderOfAllTerms(t *testing.T) {
	rising := []api.Term{
		{Kind: leastInt, N: 9, S: "z"}, {Kind: -1}, none, {Kind: 0, S: "a"}, {Kind: 0, N: 1},
		num(leastInt), num(-40), num(-5), num(0), {Kind: 1, S: "\x00"}, num(5), {Kind: 1, N: 5, S: "x"}, num(40), num(greatestInt),
		{Kind: 2, N: leastInt, S: "z"}, {Kind: 2, N: -1, S: "z"}, txt(""), txt("\x00"), txt("40"), txt("5"), txt("A"), txt("a"), txt("a\x00"), txt("ab"), txt("abc"), txt("b"), txt("z"), txt("\x7f"), txt("\x80"), txt("\xff"), {Kind: 2, N: 1},
		x(leastInt), x(-1), x(0), {Kind: 3, S: "x"}, x(1), x(10), x(greatestInt), {Kind: 4, N: -7}, {Kind: greatestInt},
	}
	for i, a := range rising {
		for k, b := range rising {
			if got := term.Compare(a, b); got != cmp.Compare(i, k) {
				t.Errorf("Compare(%v, %v) is %d", a, b, got)
			}
		}
	}
}
