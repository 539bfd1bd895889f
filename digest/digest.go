// Package digest is layer 1: SHA-256 at once and as bytes come, keyed digests, their texts: see DOC.md and doc/01-digest.md.
package digest

import "hearsay/api"

// Sum: the SHA-256 of b.
func Sum(b []byte) api.Digest {
	h := New()
	h.Write(b)
	return h.Sum()
}

// Parts: the SHA-256 of label and the parts, each with its length in eight bytes, greatest first, ahead of it.
func Parts(label string, parts ...[]byte) api.Digest {
	h := New()
	h.writeMeasured([]byte(label))
	for _, part := range parts {
		h.writeMeasured(part)
	}
	return h.Sum()
}

// Mac: the HMAC of b under key, with SHA-256.
func Mac(key, b []byte) api.Digest {
	inner := sumBehind(maskedKey(key, 0x36), b)
	return sumBehind(maskedKey(key, 0x5c), inner[:])
}

// maskedKey: the key (its digest, if it is longer than a block) with zeros up to a block, each byte changed by mask.
func maskedKey(key []byte, mask byte) [blockSize]byte {
	var block [blockSize]byte
	if len(key) > blockSize {
		short := Sum(key)
		copy(block[:], short[:])
	} else {
		copy(block[:], key)
	}
	for i := range block {
		block[i] ^= mask
	}
	return block
}

// sumBehind: the SHA-256 of the block and b behind it, which needn't be laid together for that.
func sumBehind(block [blockSize]byte, b []byte) api.Digest {
	h := New()
	h.Write(block[:])
	h.Write(b)
	return h.Sum()
}
