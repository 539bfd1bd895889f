package bundle

import (
	"bytes"
	"errors"

	"hearsay/api"
	"hearsay/codec"
)

// The reasons why bytes, or a part of them, can't be read.
var (
	errLong  = errors.New("more bytes than a bundle may have")
	errShort = errors.New("bytes are missing")
	errOther = errors.New("bytes that stand for nothing there")
	errTail  = errors.New("bytes behind the end")
)

// unread: a part that can't be read, and the reason.
type unread struct {
	part   string
	reason error
}

func (u unread) Error() string { return u.part + ": " + u.reason.Error() }

func (u unread) Unwrap() error { return u.reason }

// errnoOf: the error's number for which the error value of something unread stands.
func errnoOf(err error) api.Errno {
	if errors.Is(err, errLong) {
		return api.ErrBundleLong
	}
	return api.ErrBundle
}

// contents: what a bundle holds.
type contents struct {
	goal  api.Atom
	certs [][]byte
	proof api.Proof
}

// read: what the bytes hold, in new memory. What codec reads is canonical, and so is each number of four bytes; so no other bytes hold the same.
func read(b []byte) (contents, error) {
	if len(b) > api.MaxBundle {
		return contents{}, unread{"the whole", errLong}
	}
	r := &reader{left: b}
	if err := r.begin(); err != nil {
		return contents{}, err
	}
	goal, err := partAs(r, "the goal", codec.ReadAtom)
	if err != nil {
		return contents{}, err
	}
	certs, err := r.certificates()
	if err != nil {
		return contents{}, err
	}
	proof, err := partAs(r, "the derivation", codec.ReadProof)
	if err != nil {
		return contents{}, err
	}
	if len(r.left) > 0 {
		return contents{}, unread{"the whole", errTail}
	}
	return contents{goal, certs, proof}, nil
}

// reader: the bytes that are left to be read.
type reader struct {
	left []byte
}

// take: the next bytes, so many. They are the argument's own: none of them may be answered.
func (r *reader) take(count int) ([]byte, error) {
	if len(r.left) < count {
		return nil, errShort
	}
	taken := r.left[:count]
	r.left = r.left[count:]
	return taken, nil
}

func (r *reader) begin() error {
	first, err := r.take(len(magic))
	if err != nil {
		return unread{"the beginning", err}
	}
	if string(first) != magic {
		return unread{"the beginning", errOther}
	}
	return nil
}

func (r *reader) number() (int, error) {
	digits, err := r.take(numberSize)
	if err != nil {
		return 0, err
	}
	n := 0
	for _, d := range digits {
		n = n<<8 | int(d)
	}
	return n, nil
}

// part: the next part's bytes, which are the argument's own.
func (r *reader) part() ([]byte, error) {
	size, err := r.number()
	if err != nil {
		return nil, err
	}
	return r.take(size)
}

// partAs: the next part, as the thing whose bytes it is.
func partAs[T any](r *reader, name string, readThing func([]byte) (T, api.Errno)) (T, error) {
	var nothing T
	b, err := r.part()
	if err != nil {
		return nothing, unread{name, err}
	}
	thing, refused := readThing(b)
	if refused != api.OK {
		return nothing, unread{name, errOther}
	}
	return thing, nil
}

// certificates: the list grows as they come, since the number may promise more than there are.
func (r *reader) certificates() ([][]byte, error) {
	count, err := r.number()
	if err != nil {
		return nil, unread{"the number of certificates", err}
	}
	var certs [][]byte
	for range count {
		b, err := r.part()
		if err != nil {
			return nil, unread{"a certificate", err}
		}
		certs = append(certs, bytes.Clone(b))
	}
	return certs, nil
}
