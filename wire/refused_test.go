package wire_test

import (
	"math"
	"slices"
	"testing"

	"hearsay/api"
)

// P23.10, R1, R2: every call with every kind of argument, beside the row told by hand.

// states: scripts that come to wires of several forms.
func states() [][]call {
	four := []call{{kind: callSend, text: "one"}, {kind: callSend}, {kind: callSend, text: "three"}, {kind: callCopy, n: 1}}
	turned := slices.Concat(four, []call{{kind: callSwap, n: 1, m: 3}, {kind: callDrop, n: 2}, {kind: callCut, n: 4, m: 1}})
	emptied := slices.Concat(four, []call{{kind: callDrop, n: 3}, {kind: callTake, n: 1}, {kind: callDrop, n: 4}, {kind: callDrop, n: 2}})
	again := slices.Concat(emptied, []call{{kind: callSend, text: "ab"}})
	return [][]call{nil, four, turned, emptied, again}
}

// fullStates: the same, and all numbers given.
func fullStates() [][]call {
	var l [][]call
	for _, script := range states()[1:4] {
		l = append(l, slices.Concat(script, nothingSent(5, 4096)))
	}
	return l
}

// nothingSent: messages of these numbers that come and go.
func nothingSent(from, to int) []call {
	var l []call
	for n := from; n <= to; n++ {
		l = append(l, call{kind: callSend}, call{kind: callDrop, n: n})
	}
	return l
}

func someNumbers() []int {
	return ints(-1, 0, 1, 2, 3, 4, 5, 6, 4096, 4097, math.MinInt, math.MaxInt)
}

// callsOfOne: with any numbers, and bytes of any length.
func callsOfOne() []call {
	l := []call{{kind: callSend}, {kind: callSend, text: "new"}, {kind: callSend, text: long(api.MaxMessage + 1)}, {kind: callNext}, {kind: callWaiting}}
	for _, n := range someNumbers() {
		for _, kind := range ints(callLook, callTake, callDrop, callCopy) {
			l = append(l, call{kind: kind, n: n})
		}
	}
	return l
}

// callsOfMore: with any two numbers, and bits.
func callsOfMore() []call {
	var l []call
	for _, n := range someNumbers() {
		for _, m := range someNumbers() {
			l = append(l, call{kind: callSwap, n: n, m: m}, call{kind: callCut, n: n, m: m})
			for _, k := range ints(0, 1, 256, -1) {
				l = append(l, call{kind: callFlip, n: n, m: m, k: k})
			}
		}
	}
	return l
}

// tryAll: what each call answers behind the script, and what it leaves. What is sent next is told too, so that a number that was used up is seen.
func tryAll(t *testing.T, script, calls []call) {
	t.Helper()
	refused := 0
	for _, c := range calls {
		x := watch(t)
		for _, s := range script {
			x.do(s)
		}
		before := x.p.shown()
		if got := x.do(c); got.err != api.OK {
			refused++
			if got.number != 0 || got.bytes != "" {
				t.Errorf("R2: beside an error: %v", got)
			}
			wantRow(t, x.w, before...)
		}
		x.look()
		x.do(call{kind: callSend, text: "next"})
		x.look()
	}
	if refused < len(calls)/3 {
		t.Errorf("P23.10: only %d of %d calls were refused", refused, len(calls))
	}
}

func TestAllCalls(t *testing.T) {
	for _, script := range states() {
		tryAll(t, script, slices.Concat(callsOfOne(), callsOfMore()))
	}
}

func TestAllCallsOfFullWires(t *testing.T) {
	for _, script := range fullStates() {
		tryAll(t, script, callsOfOne())
	}
}

// TestLooksChangeNothing: Look, Next and Waiting, of what is there and what isn't, and all refused calls, between all others: the same is told as without them.
func TestLooksChangeNothing(t *testing.T) {
	looks := []call{{kind: callNext}, {kind: callWaiting}, {kind: callSend, text: long(api.MaxMessage + 1)}}
	for _, n := range someNumbers() {
		looks = append(looks, call{kind: callLook, n: n}, call{kind: callFlip, n: n, m: -1, k: 1}, call{kind: callCut, n: n, m: -1})
	}
	for _, n := range ints(-1, 0, 4097, math.MinInt, math.MaxInt) {
		looks = append(looks, call{kind: callTake, n: n}, call{kind: callDrop, n: n}, call{kind: callCopy, n: n}, call{kind: callSwap, n: n, m: 1}, call{kind: callSwap, n: 1, m: n})
	}
	for _, script := range states() {
		plain, looked := watch(t), watch(t)
		for _, c := range script {
			for _, l := range looks {
				l.of(looked.w)
			}
			if a, b := plain.do(c), looked.do(c); !a.same(b) {
				t.Errorf("P23.10: %v with looks, %v without", b, a)
			}
			plain.look()
			looked.look()
		}
	}
}
