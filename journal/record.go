package journal

import (
	"bytes"

	"hearsay/api"
	"hearsay/cert"
	"hearsay/codec"
)

// The kinds of records, as the bytes number them.
const (
	kindAssert byte = iota + 1
	kindRetract
	kindTake
	kindForget
)

// written: the kind's and the payload's bytes of a right record, in new memory; false, if it isn't one.
func written(r api.Record) ([]byte, bool) {
	switch r.Kind {
	case api.RecAssert:
		return writtenClause(kindAssert, r)
	case api.RecRetract:
		return writtenClause(kindRetract, r)
	case api.RecTake:
		return writtenCertificate(r)
	case api.RecForget:
		return append([]byte{kindForget}, r.Id[:]...), noClause(r) && noBytes(r)
	}
	return nil, false
}

func writtenClause(kind byte, r api.Record) ([]byte, bool) {
	b, err := codec.Clause(r.Clause)
	return append([]byte{kind}, b...), err == api.OK && noBytes(r) && noId(r)
}

func writtenCertificate(r api.Record) ([]byte, bool) {
	if _, err := cert.Read(r.Bytes); err != api.OK {
		return nil, false
	}
	return append([]byte{kindTake}, r.Bytes...), noClause(r) && noId(r)
}

// read: the record, in new memory, of which these are the kind's and the payload's bytes; false, if they are no right record's. No other bytes are read as the same record.
func read(b []byte) (api.Record, bool) {
	kind, payload := b[0], b[1:]
	switch kind {
	case kindAssert:
		return readClause(api.RecAssert, payload)
	case kindRetract:
		return readClause(api.RecRetract, payload)
	case kindTake:
		return readCertificate(payload)
	case kindForget:
		return readId(payload)
	}
	return api.Record{}, false
}

func readClause(kind int, payload []byte) (api.Record, bool) {
	c, err := codec.ReadClause(payload)
	return api.Record{Kind: kind, Clause: c}, err == api.OK
}

func readCertificate(payload []byte) (api.Record, bool) {
	if _, err := cert.Read(payload); err != api.OK {
		return api.Record{}, false
	}
	return api.Record{Kind: api.RecTake, Bytes: bytes.Clone(payload)}, true
}

func readId(payload []byte) (api.Record, bool) {
	if len(payload) != digestSize {
		return api.Record{}, false
	}
	return api.Record{Kind: api.RecForget, Id: lastDigest(payload)}, true
}

// noClause: whether the clause is the zero one; lists without elements are none.
func noClause(r api.Record) bool {
	c := r.Clause
	return c.Head.By == api.Term{} && c.Head.Name == "" && len(c.Head.Args) == 0 && len(c.Body) == 0 && len(c.Tests) == 0
}

func noBytes(r api.Record) bool { return len(r.Bytes) == 0 }

func noId(r api.Record) bool { return r.Id == api.Digest{} }
