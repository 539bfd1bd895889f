package wire_test

import (
	"math"
	"slices"
	"strconv"
	"strings"
	"testing"

	"hearsay/api"
	"hearsay/wire"
)

func texts(l ...string) []string { return l }

func ints(l ...int) []int { return l }

func long(n int) string { return strings.Repeat("a", n) }

// farNumbers: those that no message of a short row has.
func farNumbers() []int {
	return ints(0, -1, -2, -4096, math.MinInt, math.MinInt+1, math.MinInt32, 4096, 4097, math.MaxInt32, 1<<32+1, 1<<32+2, math.MaxInt, math.MaxInt-1)
}

// allBytes: each byte once.
func allBytes() string {
	var b []byte
	for i := range 256 {
		b = append(b, byte(i))
	}
	return string(b)
}

// contents: of messages; what stands in them means nothing to a wire.
func contents() []string {
	return texts("", "a", "ab", "xyz", "\x00", "\xff\x80\x7f", "é", "two\nlines\n", allBytes(), strings.Repeat("\x00", 300), long(5000))
}

// shown: a message as a text: its number, a colon, its bytes.
func shown(n int, text string) string { return strconv.Itoa(n) + ":" + text }

func rowOf(w *wire.Wire) []string {
	var l []string
	for _, m := range w.Waiting() {
		l = append(l, shown(m.N, string(m.Bytes)))
	}
	return l
}

// wantRow: all that shows the row: Waiting, Next, and Look of each message.
func wantRow(t *testing.T, w *wire.Wire, want ...string) {
	t.Helper()
	if got := rowOf(w); !slices.Equal(got, want) {
		t.Errorf("P23.8: Waiting is %.200q, want %.200q", got, want)
		return
	}
	next := 0
	for i, x := range want {
		number, text, _ := strings.Cut(x, ":")
		n, err := strconv.Atoi(number)
		if err != nil {
			t.Fatalf("%.20q shows no message", x)
		}
		if i == 0 {
			next = n
		}
		wantLook(t, w, n, text)
	}
	if got := w.Next(); got != next {
		t.Errorf("P23.8: Next is %d, want %d", got, next)
	}
}

func wantSend(t *testing.T, w *wire.Wire, text string, want int) {
	t.Helper()
	if n, err := w.Send([]byte(text)); n != want || err != api.OK {
		t.Errorf("P23.2: Send of %d bytes, %.20q: %d, %d; want %d, OK", len(text), text, n, err, want)
	}
}

func wantNotSent(t *testing.T, w *wire.Wire, text string, want api.Errno) {
	t.Helper()
	if n, err := w.Send([]byte(text)); n != 0 || err != want {
		t.Errorf("P23.2: Send of %d bytes: %d, %d; want 0, %d", len(text), n, err, want)
	}
}

func wantLook(t *testing.T, w *wire.Wire, n int, want string) {
	t.Helper()
	if b, err := w.Look(n); string(b) != want || err != api.OK {
		t.Errorf("P23.3: Look(%d): %.50q, %d; want %.50q, OK", n, b, err, want)
	}
}

func wantTake(t *testing.T, w *wire.Wire, n int, want string) {
	t.Helper()
	if b, err := w.Take(n); string(b) != want || err != api.OK {
		t.Errorf("P23.3: Take(%d): %.50q, %d; want %.50q, OK", n, b, err, want)
	}
}

func wantDrop(t *testing.T, w *wire.Wire, n int, want api.Errno) {
	t.Helper()
	if err := w.Drop(n); err != want {
		t.Errorf("P23.3: Drop(%d): %d, want %d", n, err, want)
	}
}

func wantCopy(t *testing.T, w *wire.Wire, n, want int) {
	t.Helper()
	if m, err := w.Copy(n); m != want || err != api.OK {
		t.Errorf("P23.4: Copy(%d): %d, %d; want %d, OK", n, m, err, want)
	}
}

func wantNotCopied(t *testing.T, w *wire.Wire, n int, want api.Errno) {
	t.Helper()
	if m, err := w.Copy(n); m != 0 || err != want {
		t.Errorf("P23.4: Copy(%d): %d, %d; want 0, %d", n, m, err, want)
	}
}

func wantSwap(t *testing.T, w *wire.Wire, n, m int, want api.Errno) {
	t.Helper()
	if err := w.Swap(n, m); err != want {
		t.Errorf("P23.5: Swap(%d, %d): %d, want %d", n, m, err, want)
	}
}

func wantFlip(t *testing.T, w *wire.Wire, n, at, bits int, want api.Errno) {
	t.Helper()
	if err := w.Flip(n, at, bits); err != want {
		t.Errorf("P23.6: Flip(%d, %d, %d): %d, want %d", n, at, bits, err, want)
	}
}

func wantCut(t *testing.T, w *wire.Wire, n, length int, want api.Errno) {
	t.Helper()
	if err := w.Cut(n, length); err != want {
		t.Errorf("P23.7: Cut(%d, %d): %d, want %d", n, length, err, want)
	}
}

// wantGone: no call finds a message of this number, and none of them changes the row.
func wantGone(t *testing.T, w *wire.Wire, n int) {
	t.Helper()
	before := rowOf(w)
	if b, err := w.Look(n); len(b) != 0 || err != api.ErrNoMessage {
		t.Errorf("P23.3: Look(%d): %.50q, %d; want none, ErrNoMessage", n, b, err)
	}
	if b, err := w.Take(n); len(b) != 0 || err != api.ErrNoMessage {
		t.Errorf("P23.3: Take(%d): %.50q, %d; want none, ErrNoMessage", n, b, err)
	}
	wantDrop(t, w, n, api.ErrNoMessage)
	wantNotCopied(t, w, n, api.ErrNoMessage)
	wantSwap(t, w, n, n, api.ErrNoMessage)
	wantSwap(t, w, n, w.Next(), api.ErrNoMessage)
	wantSwap(t, w, w.Next(), n, api.ErrNoMessage)
	wantFlip(t, w, n, 0, 1, api.ErrNoMessage)
	wantFlip(t, w, n, -1, 1, api.ErrNoMessage)
	wantCut(t, w, n, 0, api.ErrNoMessage)
	wantCut(t, w, n, -1, api.ErrNoMessage)
	wantRow(t, w, before...)
}

// wireOf: a wire to which these messages were sent.
func wireOf(t *testing.T, sent ...string) *wire.Wire {
	t.Helper()
	w := wire.New()
	for i, text := range sent {
		wantSend(t, w, text, i+1)
	}
	return w
}

// dropAll: the messages that are there go, from the first on.
func dropAll(t *testing.T, w *wire.Wire) {
	t.Helper()
	for _, m := range w.Waiting() {
		wantDrop(t, w, m.N, api.OK)
	}
	wantRow(t, w)
}

// fullWire: all numbers were given; the messages of these are there, none has a byte.
func fullWire(t *testing.T, there ...int) *wire.Wire {
	t.Helper()
	w := wire.New()
	for n := 1; n <= 4096; n++ {
		wantSend(t, w, "", n)
		if !slices.Contains(there, n) {
			wantDrop(t, w, n, api.OK)
		}
	}
	return w
}
