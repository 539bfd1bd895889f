package cert_test

import (
	"encoding/binary"
	"math/rand"
	"slices"
	"strings"

	"hearsay/api"
	"hearsay/codec"
)

// Plain versions of the chapter's table, by texts put one behind the other.

func textBytes(s string) string { return string([]byte{byte(len(s))}) + s }

func intBytes(n int) string { return string(binary.BigEndian.AppendUint64(nil, uint64(n))) }

func termBytes(t api.Term) string {
	switch t.Kind {
	case api.KindNum:
		return "\x01" + intBytes(t.N)
	case api.KindText:
		return "\x02" + textBytes(t.S)
	case api.KindVar:
		return "\x03" + intBytes(t.N)
	}
	return "\x00"
}

func listBytes[T any](l []T, one func(T) string) string {
	out := string([]byte{byte(len(l))})
	for _, x := range l {
		out += one(x)
	}
	return out
}

func atomBytes(a api.Atom) string {
	return termBytes(a.By) + textBytes(a.Name) + listBytes(a.Args, termBytes)
}

func testBytes(t api.Test) string {
	return string([]byte{byte(t.Op)}) + termBytes(t.L) + termBytes(t.R)
}

func clauseBytes(c api.Clause) string {
	return atomBytes(c.Head) + listBytes(c.Body, atomBytes) + listBytes(c.Tests, testBytes)
}

func plainBody(u string, c api.Clause) string { return "HSC1" + textBytes(u) + clauseBytes(c) }

// plainRead: by P19.3's words.
func plainRead(b string) (api.Cert, api.Errno) {
	refused := func(err api.Errno) (api.Cert, api.Errno) { return api.Cert{}, err }
	if !strings.HasPrefix(b, "HSC1") {
		return refused(api.ErrMagic)
	}
	if len(b) == 4 {
		return refused(api.ErrShort)
	}
	n := int(b[4])
	if n == 0 || n > 64 {
		return refused(api.ErrCode)
	}
	if len(b) < 5+n || len(b) < 5+n+32 {
		return refused(api.ErrShort)
	}
	c, err := codec.ReadClause([]byte(b[5+n : len(b)-32]))
	if err != api.OK {
		return refused(err)
	}
	if c.Head.By != none {
		return refused(api.ErrCode)
	}
	return api.Cert{Signer: b[5 : 5+n], Clause: c, Seal: api.Digest([]byte(b[len(b)-32:]))}, api.OK
}

// chosen: things by chance, the same ones at every run.
type chosen struct{ *rand.Rand }

func newChosen(seed int64) *chosen { return &chosen{rand.New(rand.NewSource(seed))} }

func one[T any](c *chosen, of ...T) T { return of[c.Intn(len(of))] }

func (c *chosen) some(of []string, n int) []string {
	var l []string
	for _, i := range c.Perm(len(of))[:n] {
		l = append(l, of[i])
	}
	return l
}

// spoilt: bytes turned, taken out, put in, cut, and put behind.
func (c *chosen) spoilt(b string) string {
	l := []byte(b)
	for range 1 + c.Intn(2) {
		at := c.Intn(len(l) + 1)
		end := min(len(l), at+1+c.Intn(9))
		switch c.Intn(7) {
		case 0:
			l = slices.Delete(l, at, end)
		case 1:
			l = slices.Insert(l, at, slices.Clone(l[at:end])...)
		case 2:
			l = slices.Insert(l, at, one(c, []byte{0, 1, 2, 3, 4, 8, 9, 'p', 0x7f, 0x80, 0xff}...))
		case 3:
			l = l[:at]
		case 4:
			l = append(l, byte(c.Intn(256)))
		default:
			if at < len(l) {
				l[at] ^= 1 << c.Intn(8)
			}
		}
	}
	return string(l)
}
