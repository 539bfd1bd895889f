package digest

import (
	"bytes"
	"math/big"
	"testing"
)

// rootWord: the first 32 bits behind the point of the square root (degree 2) or cube root (degree 3) of p, by halving.
func rootWord(p int64, degree int) uint32 {
	scaled := new(big.Int).Lsh(big.NewInt(p), uint(32*degree))
	low, high := new(big.Int), new(big.Int).Lsh(big.NewInt(1), 64)
	for {
		middle := new(big.Int).Add(low, high)
		middle.Rsh(middle, 1)
		if middle.Cmp(low) == 0 {
			return uint32(low.Uint64())
		}
		if new(big.Int).Exp(middle, big.NewInt(int64(degree)), nil).Cmp(scaled) <= 0 {
			low = middle
		} else {
			high = middle
		}
	}
}

func firstPrimes(n int) []int64 {
	var primes []int64
	for p := int64(2); len(primes) < n; p++ {
		if big.NewInt(p).ProbablyPrime(20) {
			primes = append(primes, p)
		}
	}
	return primes
}

func TestRoundConstants(t *testing.T) {
	if roundConstants[0] != 0x428a2f98 || roundConstants[1] != 0x71374491 || roundConstants[63] != 0xc67178f2 {
		t.Errorf("k(0), k(1), k(63) are %x, %x, %x", roundConstants[0], roundConstants[1], roundConstants[63])
	}
	for i, p := range firstPrimes(64) {
		if want := rootWord(p, 3); roundConstants[i] != want {
			t.Errorf("k(%d) is %x, of the prime %d want %x", i, roundConstants[i], p, want)
		}
	}
}

func TestFirstState(t *testing.T) {
	for i, p := range firstPrimes(8) {
		if got, want := firstState()[i], rootWord(p, 2); got != want {
			t.Errorf("word %d of the first state is %x, of the prime %d want %x", i, got, p, want)
		}
	}
}

// The lengths that are too great to be hashed in a test: their number of bits needs more than four bytes.
func TestPadding(t *testing.T) {
	for _, c := range []struct {
		n, zeros int
		bits     []byte
	}{
		{0, 55, []byte{0, 0, 0, 0, 0, 0, 0, 0}},
		{55, 0, []byte{0, 0, 0, 0, 0, 0, 1, 0xb8}},
		{56, 63, []byte{0, 0, 0, 0, 0, 0, 1, 0xc0}},
		{63, 56, []byte{0, 0, 0, 0, 0, 0, 1, 0xf8}},
		{64, 55, []byte{0, 0, 0, 0, 0, 0, 2, 0}},
		{1<<29 - 1, 56, []byte{0, 0, 0, 0, 0xff, 0xff, 0xff, 0xf8}},
		{1 << 29, 55, []byte{0, 0, 0, 1, 0, 0, 0, 0}},
		{1<<31 - 1, 56, []byte{0, 0, 0, 3, 0xff, 0xff, 0xff, 0xf8}},
	} {
		want := append([]byte{0x80}, make([]byte, c.zeros)...)
		want = append(want, c.bits...)
		if got := padding(c.n); !bytes.Equal(got, want) {
			t.Errorf("padding of %d bytes is %x, want %x", c.n, got, want)
		}
	}
}
