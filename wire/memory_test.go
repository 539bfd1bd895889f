package wire_test

import (
	"slices"
	"strconv"
	"sync"
	"testing"

	"hearsay/api"
	"hearsay/wire"
)

// P23.10, R3, R4: what is handed in stays, its spare room too, and isn't kept; what is answered is new memory, each message's bytes too.

// fill: all of the list, its spare room too.
func fill[T any](l []T, mark T) {
	l = l[:cap(l)]
	for i := range l {
		l[i] = mark
	}
}

// wantApart: no two of the lists share memory, spare room too. All are written over.
func wantApart(t *testing.T, what string, lists [][]byte) {
	t.Helper()
	if len(lists) > 256 {
		t.Fatalf("too many lists of %s for marks of a byte", what)
	}
	for i, l := range lists {
		fill(l, byte(i))
	}
	for i, l := range lists {
		if slices.ContainsFunc(l[:cap(l)], func(b byte) bool { return b != byte(i) }) {
			t.Errorf("R3: two lists of %s share memory", what)
			return
		}
	}
}

// spoil: a list of messages with all that hangs on it, written over and grown.
func spoil(l []api.Message) {
	for _, m := range l {
		spoilBytes(m.Bytes)
	}
	_ = append(l, api.Message{N: 77, Bytes: []byte("grown")})
	fill(l, api.Message{N: -1, Bytes: []byte("written over")})
}

func spoilBytes(b []byte) {
	_ = append(b, "grown by many bytes"...)
	_ = append(b, 'x')
	fill(b, '#')
}

// spared: the text with spare room behind it that isn't zero.
func spared(text string) []byte { return append([]byte(text), "what stands behind it"...)[:len(text)] }

// TestSentBytesStay: Send and all later calls leave them, their spare room too, also where they are refused; and what stands in the spare room isn't seen.
func TestSentBytesStay(t *testing.T) {
	for _, text := range append(contents(), long(api.MaxMessage), long(api.MaxMessage+1)) {
		given := spared(text)
		whole := slices.Clone(given[:cap(given)])
		w := wireOf(t, "a", "b")
		w.Send(given)
		w.Send(given)
		w.Flip(3, 0, -1)
		w.Flip(4, len(text)-1, 1)
		w.Flip(3, len(text), 1)
		w.Copy(3)
		w.Cut(3, 1)
		w.Cut(4, len(text)+1)
		w.Swap(1, 3)
		spoil(w.Waiting())
		b, _ := w.Take(4)
		spoilBytes(b)
		w.Drop(3)
		if !slices.Equal(given[:cap(given)], whole) {
			t.Errorf("P23.10: the bytes that were sent have changed: %.20q", text)
		}
	}
}

// TestSentBytesAreNotKept: what becomes of them afterwards isn't seen.
func TestSentBytesAreNotKept(t *testing.T) {
	for _, text := range contents() {
		given := spared(text)
		w := wire.New()
		w.Send(given)
		w.Send(given)
		spoilBytes(given)
		wantRow(t, w, shown(1, text), shown(2, text))
		wantFlip(t, w, 1, 0, 1, placeError(api.Message{Bytes: given}, 0))
		wantLook(t, w, 2, text)
	}
}

// TestOneBufferOfManyMessages: used again and again.
func TestOneBufferOfManyMessages(t *testing.T) {
	buffer := make([]byte, 0, 100)
	w := wire.New()
	var want []string
	for n := 1; n <= 200; n++ {
		buffer = append(buffer[:0], "message "+strconv.Itoa(n)...)
		if got, err := w.Send(buffer); got != n || err != api.OK {
			t.Fatalf("P23.2: Send: %d, %d", got, err)
		}
		want = append(want, shown(n, "message "+strconv.Itoa(n)))
	}
	wantRow(t, w, want...)
}

// TestAnswersAreNewMemory: what is written into answers, and put behind them, is never seen again, wherever the message's bytes came from.
func TestAnswersAreNewMemory(t *testing.T) {
	w := wireOf(t, "one", "two", "three", "", "five")
	wantCopy(t, w, 1, 6)
	wantCut(t, w, 3, 2, api.OK)
	wantCopy(t, w, 3, 7)
	wantFlip(t, w, 5, 0, 32, api.OK)
	wantCut(t, w, 2, 0, api.OK)
	row := texts("1:one", "2:", "3:th", "4:", "5:Five", "6:one", "7:th")
	for range 3 {
		spoil(w.Waiting())
		wantRow(t, w, row...)
		for n := 1; n <= 7; n++ {
			b, _ := w.Look(n)
			spoilBytes(b)
			wantRow(t, w, row...)
		}
	}
	for n := 1; n <= 7; n++ {
		b, _ := w.Take(n)
		spoilBytes(b)
		wantRow(t, w, row[n:]...)
	}
	wantSend(t, w, "eight", 8)
	wantRow(t, w, "8:eight")
}

// TestAnswersApart: no two lists of answers share memory, whatever call they come from.
func TestAnswersApart(t *testing.T) {
	w := wireOf(t, "one", "two", "three", "four")
	wantCopy(t, w, 1, 5)
	wantCopy(t, w, 5, 6)
	var lists [][]byte
	for i := range 6 {
		if i == 3 {
			wantCut(t, w, 1, 2, api.OK)
			wantCopy(t, w, 1, 7)
		}
		for _, m := range w.Waiting() {
			b, _ := w.Look(m.N)
			lists = append(lists, m.Bytes, b)
		}
	}
	for n := 1; n <= 7; n++ {
		b, _ := w.Take(n)
		lists = append(lists, b)
	}
	wantApart(t, "messages' bytes", lists)
}

// TestListsOfMessagesApart: two answers of Waiting are two lists.
func TestListsOfMessagesApart(t *testing.T) {
	w := wireOf(t, "one", "two", "three")
	a, b := w.Waiting(), w.Waiting()
	a[0], a[1] = a[1], api.Message{N: 9}
	_ = append(a, api.Message{N: 10})
	if b[0].N != 1 || b[1].N != 2 || string(b[1].Bytes) != "two" {
		t.Errorf("R3: two lists of messages share memory: %v", b)
	}
	fill(b, api.Message{N: 11})
	if a[2].N != 3 || string(a[2].Bytes) != "three" {
		t.Errorf("R3: two lists of messages share memory: %v", a)
	}
	wantRow(t, w, "1:one", "2:two", "3:three")
}

// TestStillAsAnswered: what was told stays as it was, whatever is done to the wire afterwards.
func TestStillAsAnswered(t *testing.T) {
	w := wireOf(t, "one", "two", "three")
	waiting := w.Waiting()
	looked, _ := w.Look(2)
	wantFlip(t, w, 2, 0, 1, api.OK)
	wantFlip(t, w, 1, 2, 1, api.OK)
	wantCut(t, w, 3, 1, api.OK)
	wantSwap(t, w, 1, 3, api.OK)
	taken, _ := w.Take(2)
	wantCopy(t, w, 1, 4)
	for n := 5; n < 40; n++ {
		wantSend(t, w, "written over?", n)
		wantFlip(t, w, n, 0, -1, api.OK)
	}
	wantDrop(t, w, 3, api.OK)
	var got []string
	for _, m := range waiting {
		got = append(got, shown(m.N, string(m.Bytes)))
	}
	if !slices.Equal(got, texts("1:one", "2:two", "3:three")) || string(looked) != "two" || string(taken) != "uwo" {
		t.Errorf("R3: what was told has changed: %q, %q, %q", got, looked, taken)
	}
}

// TestSentOnFromAnswers: what a wire told is sent to it again, and lives apart.
func TestSentOnFromAnswers(t *testing.T) {
	w := wireOf(t, "abc")
	looked, _ := w.Look(1)
	w.Send(looked)
	taken, _ := w.Take(1)
	w.Send(taken)
	w.Send(taken)
	fill(looked, '#')
	fill(taken, '#')
	wantFlip(t, w, 3, 0, 32, api.OK)
	wantRow(t, w, "2:abc", "3:Abc", "4:abc")
}

// TestLooksTogether: calls that change nothing may come from several goroutines at one time (R4).
func TestLooksTogether(t *testing.T) {
	w := wireOf(t, contents()...)
	wantSwap(t, w, 2, 5, api.OK)
	wantCut(t, w, 3, 1, api.OK)
	want := rowOf(w)
	var all sync.WaitGroup
	for range 8 {
		all.Go(func() {
			for range 30 {
				wantRow(t, w, want...)
				spoil(w.Waiting())
			}
		})
	}
	all.Wait()
	wantRow(t, w, want...)
}

// TestWiresTogether: each goroutine has a wire of its own.
func TestWiresTogether(t *testing.T) {
	var all sync.WaitGroup
	for seed := range int64(8) {
		all.Go(func() {
			c := newChosen(seed)
			x := watch(t)
			for range 200 {
				x.do(c.call(x.p))
			}
			x.look()
		})
	}
	all.Wait()
}
