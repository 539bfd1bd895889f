package wire_test

import (
	"testing"

	"hearsay/api"
	"hearsay/wire"
)

// P23.9: what is turned back.

// begun: a wire, and the number that it gives next.
type begun struct {
	w    *wire.Wire
	next int
}

// someWires: short ones of several forms.
func someWires(t *testing.T) []begun {
	t.Helper()
	turned := wireOf(t, "one", "two", "three", "four")
	wantSwap(t, turned, 1, 3, api.OK)
	wantDrop(t, turned, 2, api.OK)
	wantFlip(t, turned, 4, 0, -1, api.OK)
	wantCut(t, turned, 3, 2, api.OK)
	return []begun{{wireOf(t, "a"), 2}, {wireOf(t, "", "ab"), 3}, {wireOf(t, contents()...), len(contents()) + 1}, {turned, 5}}
}

func TestFlipTwice(t *testing.T) {
	for _, x := range someWires(t) {
		w, next := x.w, x.next
		before := rowOf(w)
		for _, m := range w.Waiting() {
			for at := range min(len(m.Bytes), 40) {
				for _, bits := range manyBits() {
					wantFlip(t, w, m.N, at, bits, api.OK)
					wantFlip(t, w, m.N, at, bits, api.OK)
				}
			}
		}
		wantRow(t, w, before...)
		wantSend(t, w, "x", next)
	}
}

// TestFlipTwiceFarApart: other places and messages are flipped between the two.
func TestFlipTwiceFarApart(t *testing.T) {
	for _, x := range someWires(t) {
		w, next := x.w, x.next
		before := rowOf(w)
		for range 2 {
			for _, m := range w.Waiting() {
				for at := range m.Bytes {
					wantFlip(t, w, m.N, at, at*m.N+1, api.OK)
				}
			}
		}
		wantRow(t, w, before...)
		wantSend(t, w, "x", next)
	}
}

func TestSwapTwice(t *testing.T) {
	for _, x := range someWires(t) {
		w, next := x.w, x.next
		before := rowOf(w)
		for _, a := range w.Waiting() {
			for _, b := range w.Waiting() {
				wantSwap(t, w, a.N, b.N, api.OK)
				wantSwap(t, w, a.N, b.N, api.OK)
				wantSwap(t, w, a.N, b.N, api.OK)
				wantSwap(t, w, b.N, a.N, api.OK)
				wantRow(t, w, before...)
			}
		}
		wantSend(t, w, "x", next)
	}
}

// TestCopyDropped: all is as it was but for the numbers.
func TestCopyDropped(t *testing.T) {
	for _, x := range someWires(t) {
		w, next := x.w, x.next
		before := rowOf(w)
		for _, m := range w.Waiting() {
			wantCopy(t, w, m.N, next)
			wantDrop(t, w, next, api.OK)
			wantRow(t, w, before...)
			wantGone(t, w, next)
			next++
			wantCopy(t, w, m.N, next)
			wantFlip(t, w, next, 0, 1, placeError(m, 0))
			wantCut(t, w, next, 0, api.OK)
			wantDrop(t, w, next, api.OK)
			wantRow(t, w, before...)
			next++
		}
		wantSend(t, w, "x", next)
	}
}

func placeError(m api.Message, at int) api.Errno {
	if at < len(m.Bytes) {
		return api.OK
	}
	return api.ErrPlace
}

// TestCutIsNotTurnedBack: by nothing but a copy that was made ahead of it, which takes its place.
func TestCutIsNotTurnedBack(t *testing.T) {
	w := wireOf(t, "abc", "def")
	wantCopy(t, w, 1, 3)
	wantCut(t, w, 1, 1, api.OK)
	wantCut(t, w, 1, 3, api.ErrPlace)
	wantSwap(t, w, 1, 3, api.OK)
	wantDrop(t, w, 1, api.OK)
	wantRow(t, w, "3:abc", "2:def")
}
