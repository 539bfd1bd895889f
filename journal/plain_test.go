package journal_test

import (
	"encoding/binary"
	"math/rand"
	"slices"
	"strings"

	"hearsay/api"
	"hearsay/cert"
	"hearsay/codec"
)

// Plain versions of the chapter's table, by texts put one behind the other.

func oneByte(n int) string { return string([]byte{byte(n)}) }

func textBytes(s string) string { return oneByte(len(s)) + s }

func intBytes(n int) string { return string(binary.BigEndian.AppendUint64(nil, uint64(n))) }

func numberBytes(n int) string { return string(binary.BigEndian.AppendUint32(nil, uint32(n))) }

func termBytes(t api.Term) string {
	switch t.Kind {
	case api.KindNum:
		return "\x01" + intBytes(t.N)
	case api.KindText:
		return "\x02" + textBytes(t.S)
	case api.KindVar:
		return "\x03" + intBytes(t.N)
	}
	return "\x00"
}

func listBytes[T any](l []T, one func(T) string) string {
	out := oneByte(len(l))
	for _, x := range l {
		out += one(x)
	}
	return out
}

func atomBytes(a api.Atom) string {
	return termBytes(a.By) + textBytes(a.Name) + listBytes(a.Args, termBytes)
}

func testBytes(t api.Test) string { return oneByte(t.Op) + termBytes(t.L) + termBytes(t.R) }

func clauseBytes(c api.Clause) string {
	return atomBytes(c.Head) + listBytes(c.Body, atomBytes) + listBytes(c.Tests, testBytes)
}

// payload: of a right record, by the table.
func payload(r api.Record) string {
	switch r.Kind {
	case 1, 2:
		return clauseBytes(r.Clause)
	case 3:
		return string(r.Bytes)
	}
	return string(r.Id[:])
}

// headBytes: a head with any four bytes, any length and any name; its digest is right.
func headBytes(begin string, length int, name string) string {
	h := begin + oneByte(length) + name
	return h + sum(h)
}

// handMade: b, with a record of any number, kind and payload behind it, whose digest is right.
func handMade(b string, number, kind int, payload string) string {
	r := numberBytes(number) + oneByte(kind) + payload
	return b + r + sum(b[len(b)-32:]+r)
}

// withRecord: b, a journal's bytes, with the record behind it.
func withRecord(b string, r api.Record) string {
	return handMade(b, 1+len(payload(r)), r.Kind, payload(r))
}

func plainJournal(name string, l []api.Record) string {
	b := headBytes("HSJ1", len(name), name)
	for _, r := range l {
		b = withRecord(b, r)
	}
	return b
}

// endsOf: where the head of a journal ends, and each of the records.
func endsOf(name string, l []api.Record) []int {
	ends := []int{5 + len(name) + 32}
	for i, r := range l {
		ends = append(ends, ends[i]+4+1+len(payload(r))+32)
	}
	return ends
}

// plainRecord: the right record of which these are kind and payload.
func plainRecord(kind byte, payload string) (api.Record, bool) {
	switch {
	case kind == 1 || kind == 2:
		c, err := codec.ReadClause([]byte(payload))
		return api.Record{Kind: int(kind), Clause: c}, err == api.OK
	case kind == 3:
		_, err := cert.Read([]byte(payload))
		return taking(payload), err == api.OK
	case kind == 4 && len(payload) == 32:
		return forgetting(api.Digest([]byte(payload))), true
	}
	return api.Record{}, false
}

// plainOpen: by P22.4's words; the name, the records and how many bytes they have.
func plainOpen(b string) (string, []api.Record, int, api.Errno) {
	if !strings.HasPrefix(b, "HSJ1") || len(b) < 5 {
		return "", nil, 0, api.ErrLog
	}
	n := int(b[4])
	if n < 1 || n > 64 || len(b) < 5+n+32 || sum(b[:5+n]) != b[5+n:5+n+32] {
		return "", nil, 0, api.ErrLog
	}
	name, at := b[5:5+n], 5+n+32
	var l []api.Record
	for len(b) >= at+4 {
		size := int(binary.BigEndian.Uint32([]byte(b[at : at+4])))
		end := at + 4 + size
		if size < 1 || len(b) < end+32 || sum(b[at-32:at]+b[at:end]) != b[end:end+32] {
			break
		}
		r, right := plainRecord(b[at+4], b[at+5:end])
		if !right {
			break
		}
		l, at = append(l, r), end+32
	}
	return name, l, at, api.OK
}

// chosen: things by chance, the same ones at every run.
type chosen struct{ *rand.Rand }

func newChosen(seed int64) *chosen { return &chosen{rand.New(rand.NewSource(seed))} }

func one[T any](c *chosen, of ...T) T { return of[c.Intn(len(of))] }

func some[T any](c *chosen, of []T, n int) []T {
	var l []T
	for range n {
		l = append(l, one(c, of...))
	}
	return l
}

// spoilt: bytes turned, taken out, put in, cut, and put behind.
func (c *chosen) spoilt(b string) string {
	l := []byte(b)
	for range 1 + c.Intn(2) {
		at := c.Intn(len(l) + 1)
		end := min(len(l), at+1+c.Intn(40))
		switch c.Intn(7) {
		case 0:
			l = slices.Delete(l, at, end)
		case 1:
			l = slices.Insert(l, at, slices.Clone(l[at:end])...)
		case 2:
			l = slices.Insert(l, at, one(c, []byte{0, 1, 2, 3, 4, 5, 32, 33, 0x7f, 0x80, 0xff}...))
		case 3:
			l = l[:at]
		case 4:
			l = append(l, byte(c.Intn(256)))
		default:
			if at < len(l) {
				l[at] ^= 1 << c.Intn(8)
			}
		}
	}
	return string(l)
}
