package journal

import (
	"bytes"

	"hearsay/api"
	"hearsay/digest"
)

const (
	magic      = "HSJ1"
	lengthAt   = len(magic) // the number of the name's bytes, in one byte
	nameAt     = lengthAt + 1
	digestSize = 32 // of an api.Digest
)

// newHead: the head of the journal of a principal.
func newHead(name string) []byte {
	b := append([]byte(magic), byte(len(name)))
	b = append(b, name...)
	sum := digest.Sum(b)
	return append(b, sum[:]...)
}

// headSize: how many bytes the head has with which b begins; false, if b begins with none that is whole and right.
func headSize(b []byte) (int, bool) {
	if len(b) < nameAt || !bytes.HasPrefix(b, []byte(magic)) {
		return 0, false
	}
	length := int(b[lengthAt])
	if length < 1 || length > api.MaxConst {
		return 0, false
	}
	border := nameAt + length
	size := border + digestSize
	if len(b) < size || lastDigest(b[:size]) != digest.Sum(b[:border]) {
		return 0, false
	}
	return size, true
}

// nameOf: the name in the head, which must be right.
func nameOf(b []byte) string { return string(b[nameAt : nameAt+int(b[lengthAt])]) }

// behindHead: what stands behind the head, which must be right.
func behindHead(b []byte) []byte { return b[nameAt+int(b[lengthAt])+digestSize:] }

// lastDigest: there must be bytes enough for one.
func lastDigest(b []byte) api.Digest {
	var d api.Digest
	copy(d[:], b[len(b)-digestSize:])
	return d
}
