package term_test

import (
	"slices"
	"testing"

	"hearsay/api"
	"hearsay/term"
)

// P2.11.

func TestDecideOfTheExamples(t *testing.T) {
	for _, c := range []struct {
		t            api.Test
		holds, known bool
	}{
		{test(api.OpLt, num(5), txt("5")), true, true},
		{test(api.OpLe, txt("b"), txt("a")), false, true},
		{test(api.OpEq, txt("a"), txt("a")), true, true},
		{test(api.OpEq, x(0), x(0)), false, false},
		{test(9, num(5), num(5)), false, false},
	} {
		if holds, known := term.Decide(c.t); holds != c.holds || known != c.known {
			t.Errorf("Decide(%v) is %v, %v", c.t, holds, known)
		}
	}
}

func TestDecideGoesByTheOrderOfConstants(t *testing.T) {
	rising := []api.Term{num(leastInt), num(-1), num(0), num(5), num(40), num(greatestInt), txt(""), txt("40"), txt("5"), txt("a"), txt(long(64)), txt("ab"), txt("\xff")}
	for i, l := range rising {
		for k, r := range rising {
			if want := []bool{i == k, i != k, i < k, i <= k}; !slices.Equal(decided(t, l, r), want) {
				t.Errorf("%v and %v: %v, want %v", l, r, decided(t, l, r), want)
			}
		}
	}
}

// decided: whether =, !=, < and <= hold.
func decided(t *testing.T, l, r api.Term) []bool {
	t.Helper()
	var out []bool
	for _, op := range []int{api.OpEq, api.OpNe, api.OpLt, api.OpLe} {
		holds, known := term.Decide(test(op, l, r))
		if !known {
			t.Errorf("Decide doesn't know %v %d %v", l, op, r)
		}
		out = append(out, holds)
	}
	return out
}

func TestWhatIsNoTest(t *testing.T) {
	for _, op := range []int{leastInt, -1, 0, 5, 9, greatestInt} {
		checkUnknown(t, test(op, num(5), num(5)), api.ErrTest)
		checkUnknown(t, test(op, num(4), num(5)), api.ErrTest)
	}
	for op := api.OpEq; op <= api.OpLe; op++ {
		for _, u := range append(validNowhere(), none) {
			checkUnknown(t, test(op, u, num(5)), api.ErrTest)
			checkUnknown(t, test(op, num(5), u), api.ErrTest)
			checkUnknown(t, test(op, u, u), api.ErrTest)
			checkUnknown(t, test(op, x(1), u), api.ErrTest)
		}
	}
}

func TestATestWithVariablesIsNotKnown(t *testing.T) {
	for op := api.OpEq; op <= api.OpLe; op++ {
		checkUnknown(t, test(op, x(0), x(0)), api.OK)
		checkUnknown(t, test(op, x(0), x(greatestInt)), api.OK)
		checkUnknown(t, test(op, num(5), x(0)), api.OK)
		checkUnknown(t, test(op, x(0), ann), api.OK)
	}
}

func checkUnknown(t *testing.T, u api.Test, want api.Errno) {
	t.Helper()
	if got := term.CheckTest(u); got != want {
		t.Errorf("CheckTest(%v) is %d, want %d", u, got, want)
	}
	if holds, known := term.Decide(u); holds || known {
		t.Errorf("Decide(%v) is %v, %v", u, holds, known)
	}
}

func TestCheckTestTakesWhatIsATest(t *testing.T) {
	sides := []api.Term{num(0), num(leastInt), txt(""), ann, txt(long(64)), x(0), x(greatestInt)}
	for op := api.OpEq; op <= api.OpLe; op++ {
		for _, l := range sides {
			for _, r := range sides {
				if got := term.CheckTest(test(op, l, r)); got != api.OK {
					t.Errorf("CheckTest(%v %d %v) is %d", l, op, r, got)
				}
			}
		}
	}
}

func TestApplyTest(t *testing.T) {
	s := binds(bind(0, x(1)), bind(1, num(5)), bind(1, num(6)), bind(-1, ann), bind(4, none))
	for _, c := range []struct{ t, want api.Test }{
		{test(api.OpLt, x(0), x(1)), test(api.OpLt, x(1), num(5))},
		{test(api.OpEq, x(2), x(4)), test(api.OpEq, x(2), none)},
		{test(api.OpNe, ann, x(-1)), test(api.OpNe, ann, x(-1))},
		{test(7, num(1), api.Term{Kind: api.KindVar, N: 1, S: "x"}), test(7, num(1), api.Term{Kind: api.KindVar, N: 1, S: "x"})},
		{api.Test{}, api.Test{}},
	} {
		if got := term.ApplyTest(s, c.t); got != c.want {
			t.Errorf("ApplyTest(%v) is %v, want %v", c.t, got, c.want)
		}
	}
	if got := term.ApplyTest(nil, test(api.OpLe, x(0), ann)); got != test(api.OpLe, x(0), ann) {
		t.Errorf("ApplyTest without a binding is %v", got)
	}
}
