package digest_test

import (
	"sync"
	"testing"

	"hearsay/api"
	"hearsay/digest"
)

// P1.6.

func TestNewHasherHasNothing(t *testing.T) {
	h := digest.New()
	if digest.Hex(h.Sum()) != hexOfNothing || h.Len() != 0 {
		t.Errorf("a new hasher: %s, %d", digest.Hex(h.Sum()), h.Len())
	}
	h.Write(nil)
	h.Write([]byte{})
	if digest.Hex(h.Sum()) != hexOfNothing || h.Len() != 0 {
		t.Errorf("a hasher to which no bytes came: %s, %d", digest.Hex(h.Sum()), h.Len())
	}
}

func TestHasherOfTheExample(t *testing.T) {
	h := digest.New()
	h.Write([]byte("a"))
	if h.Sum() != digest.Sum([]byte("a")) {
		t.Errorf("the first Sum is %s", digest.Hex(h.Sum()))
	}
	h.Write(nil)
	h.Write([]byte("bc"))
	if digest.Hex(h.Sum()) != hexOfABC || h.Len() != 3 {
		t.Errorf("the second Sum is %s, Len %d", digest.Hex(h.Sum()), h.Len())
	}
}

func TestAskingChangesNothing(t *testing.T) {
	h, b := digest.New(), someBytes(300)
	for i := range b {
		for range 2 {
			if h.Sum() != digest.Sum(b[:i]) || h.Len() != i {
				t.Fatalf("behind %d bytes, asked at every byte", i)
			}
		}
		h.Write(b[i : i+1])
	}
	if h.Sum() != digest.Sum(b) || h.Len() != len(b) {
		t.Errorf("behind all bytes, asked at every byte")
	}
}

// goesOn: h, to which came had come, takes more.
func goesOn(t *testing.T, h *digest.Hasher, came, more string) {
	t.Helper()
	if h.Sum() != digest.Sum([]byte(came)) || h.Len() != len(came) {
		t.Errorf("behind %d bytes a hasher tells another Sum or Len", len(came))
	}
	h.Write([]byte(more))
	if h.Sum() != digest.Sum([]byte(came+more)) || h.Len() != len(came+more) {
		t.Errorf("behind %d and %d bytes a hasher tells another Sum or Len", len(came), len(more))
	}
}

func TestCopiesHaveNothingToDoWithOneAnother(t *testing.T) {
	for _, n := range []int{0, 1, 55, 56, 63, 64, 65, 128, 150} {
		came := string(someBytes(n))
		h := digest.New()
		h.Write([]byte(came))
		first, second := h.Copy(), h.Copy()
		third := first.Copy()
		goesOn(t, h, came, "the one")
		goesOn(t, second, came, "another one, this time with more bytes than a block of 64 bytes has in it")
		goesOn(t, first, came, "")
		goesOn(t, third, came, "x")
		if h.Sum() != digest.Sum([]byte(came+"the one")) {
			t.Errorf("a copy is seen in what it was copied from, %d bytes", n)
		}
	}
}

func TestTwoHashersHaveNothingToDoWithOneAnother(t *testing.T) {
	g, h := digest.New(), digest.New()
	for _, b := range someBytes(200) {
		g.Write([]byte{b})
		h.Write([]byte{^b, b})
	}
	goesOn(t, digest.New(), "", "x")
	goesOn(t, g, string(someBytes(200)), "x")
	if h.Len() != 400 {
		t.Errorf("Len is %d", h.Len())
	}
}

func TestWhatWasWrittenIsNotKept(t *testing.T) {
	for _, n := range []int{1, 63, 64, 65, 100} {
		h, b := digest.New(), someBytes(n)
		h.Write(b)
		clear(b)
		if h.Sum() != digest.Sum(someBytes(n)) {
			t.Errorf("what became of %d bytes behind Write is seen", n)
		}
	}
}

// A digest that was told is the caller's: what becomes of it isn't seen.
func TestWhatIsToldIsNotKept(t *testing.T) {
	h := digest.New()
	h.Write([]byte("abc"))
	d := h.Sum()
	clear(d[:])
	if digest.Hex(h.Sum()) != hexOfABC {
		t.Errorf("what became of a Sum is seen")
	}
}

// R4: calls that change nothing may come at one time.
func TestAskedBySeveralAtOnce(t *testing.T) {
	h, b := digest.New(), someBytes(100)
	h.Write(b)
	sums := make([]api.Digest, 16)
	var wait sync.WaitGroup
	for i := range sums {
		wait.Go(func() {
			for range 50 {
				h.Sum()
				c := h.Copy()
				c.Write(b)
				sums[i] = c.Sum()
			}
		})
	}
	wait.Wait()
	for _, d := range sums {
		if d != digest.Sum(append(someBytes(100), b...)) {
			t.Errorf("a Sum of a copy made beside others is another one")
		}
	}
	goesOn(t, h, string(b), "x")
}

// P1.7.

func TestCutInThree(t *testing.T) {
	b := someBytes(150)
	want := digest.Sum(b)
	for i := range len(b) + 1 {
		for j := i; j <= len(b); j++ {
			h := digest.New()
			h.Write(b[:i])
			h.Write(b[i:j])
			h.Write(b[j:])
			if h.Sum() != want || h.Len() != len(b) {
				t.Fatalf("cut at %d and %d", i, j)
			}
		}
	}
}

func TestCutInPiecesOfOneLength(t *testing.T) {
	b := someBytes(1000)
	want := digest.Sum(b)
	for size := 1; size <= 200; size++ {
		h := digest.New()
		for at := 0; at < len(b); at += size {
			h.Write(b[at:min(at+size, len(b))])
			h.Write(nil)
		}
		if h.Sum() != want || h.Len() != len(b) {
			t.Errorf("cut in pieces of %d", size)
		}
	}
}
