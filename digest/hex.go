package digest

import "hearsay/api"

const hexDigits = "0123456789abcdef"

// Hex: the 64 digits of a digest, small letters.
func Hex(d api.Digest) string {
	var text [2 * len(d)]byte
	for i, b := range d {
		text[2*i] = hexDigits[b>>4]
		text[2*i+1] = hexDigits[b&15]
	}
	return string(text[:])
}

// FromHex: the digest that Hex tells so. ErrHex.
func FromHex(s string) (api.Digest, api.Errno) {
	var d api.Digest
	if len(s) != 2*len(d) {
		return api.Digest{}, api.ErrHex
	}
	for i := range d {
		high, okHigh := digitValue(s[2*i])
		low, okLow := digitValue(s[2*i+1])
		if !okHigh || !okLow {
			return api.Digest{}, api.ErrHex
		}
		d[i] = high<<4 | low
	}
	return d, api.OK
}

// digitValue: great letters are no digits here, so that a digest has one text alone.
func digitValue(c byte) (byte, bool) {
	switch {
	case '0' <= c && c <= '9':
		return c - '0', true
	case 'a' <= c && c <= 'f':
		return c - 'a' + 10, true
	}
	return 0, false
}
