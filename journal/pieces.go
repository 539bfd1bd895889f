package journal

import (
	"iter"

	"hearsay/api"
	"hearsay/digest"
)

// numberSize: bytes of the number with which a record begins.
const numberSize = 4

// pieces: the records' bytes, one behind the other, as their numbers cut them, up to the first that can't be whole. None has room behind it, so that none can grow into the next.
func pieces(b []byte) iter.Seq[[]byte] {
	return func(yield func([]byte) bool) {
		at := 0
		for {
			size, whole := pieceSize(b[at:])
			end := at + size
			if !whole || !yield(b[at:end:end]) {
				return
			}
			at = end
		}
	}
}

// pieceSize: how many bytes the record has with which b begins; false, if b has fewer, or if there would be no kind.
func pieceSize(b []byte) (int, bool) {
	if len(b) < numberSize {
		return 0, false
	}
	inside := 0
	for _, digit := range b[:numberSize] {
		inside = inside<<8 | int(digit)
	}
	size := numberSize + inside + digestSize
	return size, inside > 0 && size <= len(b)
}

// content: the kind's and the payload's bytes of a record's.
func content(piece []byte) []byte { return piece[numberSize : len(piece)-digestSize] }

// newPiece: the bytes of a record whose kind and payload these are, behind the digest that stands ahead of it.
func newPiece(ahead api.Digest, held []byte) []byte {
	var piece []byte
	for i := numberSize - 1; i >= 0; i-- {
		piece = append(piece, byte(len(held)>>(8*i)))
	}
	piece = append(piece, held...)
	sum := chain(ahead, piece)
	return append(piece, sum[:]...)
}

// chained: whether the record's digest is the one that it must have behind that digest.
func chained(ahead api.Digest, piece []byte) bool {
	return lastDigest(piece) == chain(ahead, piece[:len(piece)-digestSize])
}

// chain: the digest of a record whose other bytes are b.
func chain(ahead api.Digest, b []byte) api.Digest {
	h := digest.New()
	h.Write(ahead[:])
	h.Write(b)
	return h.Sum()
}
