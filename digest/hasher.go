package digest

import "hearsay/api"

// Hasher: a SHA-256 of bytes that come one after the other.
type Hasher struct {
	state  [8]uint32       // what the whole blocks that came have made of the first state
	block  [blockSize]byte // its first length modulo blockSize bytes are those that wait for their block to be full
	length int
}

// New: a hasher to which nothing has come.
func New() *Hasher {
	return &Hasher{state: firstState()}
}

// Write: the bytes of b come behind those that came.
func (h *Hasher) Write(b []byte) {
	for len(b) > 0 {
		n := copy(h.block[h.length%blockSize:], b)
		h.length += n
		b = b[n:]
		if h.length%blockSize == 0 {
			h.state = turned(h.state, h.block)
		}
	}
}

// writeMeasured: the number of b's bytes comes, and then these.
func (h *Hasher) writeMeasured(b []byte) {
	n := eightBytes(uint64(len(b)))
	h.Write(n[:])
	h.Write(b)
}

// Sum: the SHA-256 of all that came; the hasher goes on as if it hadn't been asked.
func (h *Hasher) Sum() api.Digest {
	padded := h.Copy()
	padded.Write(padding(h.length))
	var d api.Digest
	for i, word := range padded.state {
		b := fourBytes(word)
		copy(d[4*i:], b[:])
	}
	return d
}

// Len: how many bytes came.
func (h *Hasher) Len() int {
	return h.length
}

// Copy: another hasher to which the same came; the two have nothing to do with one another from here on.
func (h *Hasher) Copy() *Hasher {
	other := *h // its arrays are values, so nothing is shared
	return &other
}

// padding: what stands behind n bytes in their padded list.
func padding(n int) []byte {
	zeros := (blockSize + 55 - n%blockSize) % blockSize
	pad := make([]byte, 1+zeros+8)
	pad[0] = 0x80
	bitCount := eightBytes(8 * uint64(n))
	copy(pad[1+zeros:], bitCount[:])
	return pad
}

func eightBytes(n uint64) [8]byte {
	var b [8]byte
	high, low := fourBytes(uint32(n>>32)), fourBytes(uint32(n))
	copy(b[:4], high[:])
	copy(b[4:], low[:])
	return b
}

func fourBytes(word uint32) [4]byte {
	return [4]byte{byte(word >> 24), byte(word >> 16), byte(word >> 8), byte(word)}
}
