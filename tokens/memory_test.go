package tokens_test

import (
	"slices"
	"sync"
	"testing"

	"hearsay/api"
	"hearsay/tokens"
)

// R3, R4.

// TestJoinLeavesItsList: its tokens and its spare room, whether it has an answer or not.
func TestJoinLeavesItsList(t *testing.T) {
	for _, l := range [][]api.Token{
		nil,
		list(at(word("p"), 3, 4), num(7), at(sign(api.TokLt), 1, 1), sign(api.TokEq), quoted("a\xff")),
		list(word("p"), word("says"), num(7)),
		list(sign(99), at(word("p"), 3, 4)),
	} {
		roomy := append(slices.Clone(l), at(word("spare"), 1, 2), sign(77), num(9))[:len(l)]
		kept := slices.Clone(roomy[:cap(roomy)])
		first, ok := tokens.Join(roomy)
		if !slices.Equal(roomy[:cap(roomy)], kept) {
			t.Errorf("R3: Join(%v) changed its list", l)
		}
		clear(roomy[:cap(roomy)])
		if again, okAgain := tokens.Join(l); again != first || okAgain != ok {
			t.Errorf("R3: Join(%v) is %q, %v and then %q, %v", l, first, ok, again, okAgain)
		}
	}
}

// TestCutAnswersNewMemory: what is done to one answer, its spare room included, isn't seen in another.
func TestCutAnswersNewMemory(t *testing.T) {
	mark := api.Token{Kind: 99, Text: "mark", N: 99, At: 99, End: 99}
	for _, s := range []string{"", "p", "p(X) :- alice says q(X, -7), \"a\\\"b\" != Y.", "% no"} {
		first, _ := tokens.Cut(s, 100)
		want := slices.Clone(first)
		second, _ := tokens.Cut(s, 100)
		for i := range first[:cap(first)] {
			first[:cap(first)][i] = mark
		}
		third, _ := tokens.Cut(s, 100)
		if !slices.Equal(second, want) || !slices.Equal(third, want) || slices.Contains(second[:cap(second)], mark) || slices.Contains(third[:cap(third)], mark) {
			t.Errorf("R3: Cut(%q): two answers share memory", s)
		}
	}
}

// TestTextsMayBeCutAtOneTime: nothing is kept from call to call.
func TestTextsMayBeCutAtOneTime(t *testing.T) {
	var wait sync.WaitGroup
	for range 8 {
		wait.Go(func() {
			for s := range mixedTexts(300) {
				want, wantFault := plainCut(s)
				l, f := tokens.Cut(s, len(s))
				if !slices.Equal(l, want) || f != wantFault {
					t.Errorf("R4: Cut(%q) is %v, %v; want %v, %v", s, l, f, want, wantFault)
				}
				tokens.Join(l)
			}
		})
	}
	wait.Wait()
}
