package digest

import "math/bits"

// roundConstants are worked out at start-up: their rule is shorter than their table, and can't have a slip in one digit.
var roundConstants = cubeRootWords()

// firstState: of the primes 2 to 19 the first 32 bits behind the point of the square root.
func firstState() [8]uint32 {
	return [8]uint32{0x6a09e667, 0xbb67ae85, 0x3c6ef372, 0xa54ff53a, 0x510e527f, 0x9b05688c, 0x1f83d9ab, 0x5be0cd19}
}

// cubeRootWords: of the first 64 primes the first 32 bits behind the point of the cube root.
func cubeRootWords() [64]uint32 {
	var words [64]uint32
	prime := uint64(2)
	for i := range words {
		words[i] = cubeRootWord(prime)
		prime = nextPrime(prime)
	}
	return words
}

func nextPrime(n uint64) uint64 {
	n++
	for !isPrime(n) {
		n++
	}
	return n
}

// isPrime: of a number of at least 2.
func isPrime(n uint64) bool {
	for d := uint64(2); d*d <= n; d++ {
		if n%d == 0 {
			return false
		}
	}
	return true
}

// cubeRootWord: the greatest x whose cube isn't above p * 2^96 is the cube root of p times 2^32, rounded down; found bit by bit, in whole numbers, since a float's rounding would have to be proved harmless. For primes below 512, x has at most 35 bits, and no cube is just p * 2^96, so the cube's bits above the lowest 64 decide.
func cubeRootWord(p uint64) uint32 {
	x := uint64(0)
	for bit := uint64(1) << 34; bit > 0; bit >>= 1 {
		if cubeHigh(x|bit) < p<<32 {
			x |= bit
		}
	}
	return uint32(x)
}

// cubeHigh: x^3 without its lowest 64 bits, for x below 2^36.
func cubeHigh(x uint64) uint64 {
	high, low := bits.Mul64(x, x)
	carry, _ := bits.Mul64(low, x)
	return high*x + carry
}
