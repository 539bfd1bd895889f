package bundle

const (
	magic      = "HSB1"
	numberSize = 4 // bytes of a number: how many bytes a part has, or how many certificates there are
)

// laid: b with the parts behind it, each with the number of its bytes ahead of it.
func laid(b []byte, parts ...[]byte) []byte {
	for _, p := range parts {
		b = numbered(b, len(p))
		b = append(b, p...)
	}
	return b
}

// sizeOf: how many bytes the parts have when they are laid.
func sizeOf(parts ...[]byte) int {
	size := 0
	for _, p := range parts {
		size += numberSize + len(p)
	}
	return size
}

// numbered: b with the number behind it, its greatest byte first.
func numbered(b []byte, n int) []byte {
	for i := numberSize - 1; i >= 0; i-- {
		b = append(b, byte(n>>(8*i)))
	}
	return b
}
