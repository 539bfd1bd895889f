package cert

import "hearsay/api"

const (
	magic    = "HSC1"
	sealSize = 32 // of an api.Digest
)

// laid: the parts one behind the other, in new memory.
func laid(parts ...[]byte) []byte {
	size := 0
	for _, p := range parts {
		size += len(p)
	}
	out := make([]byte, size)
	at := 0
	for _, p := range parts {
		at += copy(out[at:], p)
	}
	return out
}

// cutSigner: the signer, whose length stands first, and what stands behind it. ErrShort, ErrCode.
func cutSigner(b []byte) (string, []byte, api.Errno) {
	if len(b) == 0 {
		return "", nil, api.ErrShort
	}
	length, rest := int(b[0]), b[1:]
	if length < 1 || length > api.MaxConst {
		return "", nil, api.ErrCode
	}
	if len(rest) < length {
		return "", nil, api.ErrShort
	}
	return string(rest[:length]), rest[length:], api.OK
}

// cutSeal: what stands ahead of the seal, and the seal. There must be bytes enough for one. The first is the argument's own memory, so it may not be answered.
func cutSeal(b []byte) ([]byte, api.Digest) {
	var seal api.Digest
	border := len(b) - sealSize
	copy(seal[:], b[border:])
	return b[:border], seal
}
