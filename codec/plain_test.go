package codec_test

import (
	"encoding/binary"
	"regexp"
	"slices"
	"strings"

	"hearsay/api"
	"hearsay/clause"
)

// Plain versions of the table of bytes: what is written, as a list of parts that tell what may stand there; and a reader that goes on behind a fault and keeps the first one.

// Kinds of parts.
const (
	isCode    = iota // one byte of those that may stand there
	isInt            // eight bytes, any
	isNatural        // eight bytes, the first of them below 80
	isName
	isText  // any bytes
	isCount // four bytes
)

type part struct {
	kind  int
	bytes []byte
	may   string
}

// What the table has for the first byte of a term, and for an operator.
const (
	asQualifier = "\x00\x02\x03"
	asArgument  = "\x01\x02\x03"
	asValue     = "\x01\x02"
	asOperator  = "\x01\x02\x03\x04"
)

// from: the bytes from least to most.
func from(least, most int) string {
	var l []byte
	for i := least; i <= most; i++ {
		l = append(l, byte(i))
	}
	return string(l)
}

func codePart(n int, may string) part { return part{isCode, []byte{byte(n)}, may} }

func numberPart(kind, n int) part {
	return part{kind, binary.BigEndian.AppendUint64(nil, uint64(n)), ""}
}

func countPart(n int) part { return part{isCount, binary.BigEndian.AppendUint32(nil, uint32(n)), ""} }

func textParts(kind int, s string, may string) []part {
	return []part{codePart(len(s), may), {kind, []byte(s), ""}}
}

// termParts: a qualifier's text has a byte at least.
func termParts(t api.Term, may string) []part {
	first := codePart(t.Kind, may)
	switch t.Kind {
	case api.KindNum:
		return []part{first, numberPart(isInt, t.N)}
	case api.KindText:
		least := 0
		if may == asQualifier {
			least = 1
		}
		return append([]part{first}, textParts(isText, t.S, from(least, 64))...)
	case api.KindVar:
		return []part{first, numberPart(isNatural, t.N)}
	}
	return []part{first}
}

func atomParts(a api.Atom) []part {
	l := append(termParts(a.By, asQualifier), textParts(isName, a.Name, from(1, 32))...)
	l = append(l, codePart(len(a.Args), from(0, 8)))
	for _, t := range a.Args {
		l = append(l, termParts(t, asArgument)...)
	}
	return l
}

func testParts(t api.Test) []part {
	return slices.Concat([]part{codePart(t.Op, asOperator)}, termParts(t.L, asArgument), termParts(t.R, asArgument))
}

func clauseParts(c api.Clause) []part {
	l := append(atomParts(c.Head), codePart(len(c.Body), from(0, 8)))
	for _, a := range c.Body {
		l = append(l, atomParts(a)...)
	}
	l = append(l, codePart(len(c.Tests), from(0, 8)))
	for _, t := range c.Tests {
		l = append(l, testParts(t)...)
	}
	return l
}

// setParts: of the list as it is.
func setParts(cs []api.Clause) []part {
	l := []part{countPart(len(cs))}
	for _, c := range cs {
		l = append(l, clauseParts(c)...)
	}
	return l
}

func stepParts(s api.Step) []part {
	l := []part{numberPart(isNatural, s.Rule), countPart(len(s.Vals))}
	for _, t := range s.Vals {
		l = append(l, termParts(t, asValue)...)
	}
	l = append(l, countPart(len(s.Uses)))
	for _, n := range s.Uses {
		l = append(l, numberPart(isNatural, n))
	}
	return l
}

func proofParts(p api.Proof) []part {
	l := append(setParts(p.Rules), countPart(len(p.Steps)))
	for _, s := range p.Steps {
		l = append(l, stepParts(s)...)
	}
	return l
}

// joined: the parts' bytes, with no room behind them.
func joined(l []part) []byte {
	var out []byte
	for _, p := range l {
		out = append(out, p.bytes...)
	}
	return slices.Clip(out)
}

type plainReader struct {
	bytes []byte
	err   api.Errno
}

// plainly: what the reader makes of the bytes, as P6.2 has it.
func plainly[T any](f face[T], b []byte) (T, api.Errno) {
	var zero T
	p := &plainReader{bytes: b}
	x := f.plainRead(p)
	if p.refuse(len(p.bytes) > 0, api.ErrTail); p.err != api.OK {
		return zero, p.err
	}
	return x, api.OK
}

// refuse: the first fault stays; behind it everything is read as zeros.
func (p *plainReader) refuse(is bool, err api.Errno) {
	if is && p.err == api.OK {
		p.err = err
	}
}

func (p *plainReader) next(n int) []byte {
	p.refuse(len(p.bytes) < n, api.ErrShort)
	if p.err != api.OK {
		return make([]byte, n)
	}
	part := p.bytes[:n]
	p.bytes = p.bytes[n:]
	return part
}

func (p *plainReader) code(may string) int {
	b := p.next(1)[0]
	p.refuse(strings.IndexByte(may, b) < 0, api.ErrCode)
	if p.err != api.OK {
		return 0
	}
	return int(b)
}

func (p *plainReader) count() int { return int(binary.BigEndian.Uint32(p.next(4))) }

func (p *plainReader) natural() int {
	n := int(binary.BigEndian.Uint64(p.next(8)))
	p.refuse(n < 0, api.ErrCode)
	return n
}

func (p *plainReader) term(may string, lengths string) api.Term {
	switch p.code(may) {
	case 1:
		return num(int(binary.BigEndian.Uint64(p.next(8))))
	case 2:
		return txt(string(p.next(p.code(lengths))))
	case 3:
		return v(p.natural())
	}
	return none
}

func (p *plainReader) argument() api.Term { return p.term(asArgument, from(0, 64)) }

var nameForm = regexp.MustCompile(`^[a-z][a-zA-Z0-9_]*\z`)

func (p *plainReader) atom() api.Atom {
	a := api.Atom{By: p.term(asQualifier, from(1, 64))}
	a.Name = string(p.next(p.code(from(1, 32))))
	p.refuse(!nameForm.MatchString(a.Name) || a.Name == "says", api.ErrCode)
	for range p.code(from(0, 8)) {
		a.Args = append(a.Args, p.argument())
	}
	return a
}

func (p *plainReader) clause() api.Clause {
	c := api.Clause{Head: p.atom()}
	for range p.code(from(0, 8)) {
		c.Body = append(c.Body, p.atom())
	}
	for range p.code(from(0, 8)) {
		op := p.code(asOperator)
		l := p.argument()
		c.Tests = append(c.Tests, test(op, l, p.argument()))
	}
	p.refuse(clause.Check(c) != api.OK, api.ErrCode)
	return c
}

// many: as long as nothing is refused.
func many[T any](p *plainReader, one func() T) []T {
	var l []T
	for n := p.count(); n > 0 && p.err == api.OK; n-- {
		l = append(l, one())
	}
	return l
}

func (p *plainReader) set() []api.Clause {
	var last []api.Clause
	return many(p, func() api.Clause {
		c := p.clause()
		p.refuse(len(last) > 0 && clause.Compare(last[0], c) != -1, api.ErrRising)
		last = []api.Clause{c}
		return c
	})
}

func (p *plainReader) step() api.Step {
	s := api.Step{Rule: p.natural()}
	s.Vals = many(p, func() api.Term { return p.term(asValue, from(0, 64)) })
	s.Uses = many(p, p.natural)
	return s
}

func (p *plainReader) proof() api.Proof {
	rules := many(p, p.clause)
	return api.Proof{Rules: rules, Steps: many(p, p.step)}
}
