package digest

import "math/bits"

const blockSize = 64

// turned: the state that the block makes of state.
func turned(state [8]uint32, block [blockSize]byte) [8]uint32 {
	work := state
	for t, word := range schedule(block) {
		a, b, c, d := work[0], work[1], work[2], work[3]
		e, f, g, h := work[4], work[5], work[6], work[7]
		u := h + (rot(e, 6) ^ rot(e, 11) ^ rot(e, 25)) + ((e & f) ^ (^e & g)) + roundConstants[t] + word
		v := (rot(a, 2) ^ rot(a, 13) ^ rot(a, 22)) + ((a & b) ^ (a & c) ^ (b & c))
		work[0], work[1], work[2], work[3] = u+v, a, b, c
		work[4], work[5], work[6], work[7] = d+u, e, f, g
	}
	for i := range work {
		work[i] += state[i]
	}
	return work
}

// schedule: the words w(0) to w(63) of a block.
func schedule(block [blockSize]byte) [64]uint32 {
	var w [64]uint32
	for t := range 16 {
		b := block[4*t : 4*t+4]
		w[t] = uint32(b[0])<<24 | uint32(b[1])<<16 | uint32(b[2])<<8 | uint32(b[3])
	}
	for t := 16; t < len(w); t++ {
		x, y := w[t-15], w[t-2]
		s0 := rot(x, 7) ^ rot(x, 18) ^ x>>3
		s1 := rot(y, 17) ^ rot(y, 19) ^ y>>10
		w[t] = w[t-16] + s0 + w[t-7] + s1
	}
	return w
}

// rot: x turned right by n bits.
func rot(x uint32, n int) uint32 {
	return bits.RotateLeft32(x, -n)
}
