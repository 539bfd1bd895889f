package wire_test

import (
	"fmt"
	"math"
	"math/rand"
	"slices"
	"testing"

	"hearsay/api"
	"hearsay/wire"
)

// plainWire: a row told by hand, by the chapter's words: texts, and a new row for every change.
type plainWire struct {
	row   []plainMessage
	given int
}

type plainMessage struct {
	n    int
	text string
}

func (p *plainWire) there(n int) bool {
	return slices.ContainsFunc(p.row, func(m plainMessage) bool { return m.n == n })
}

func (p *plainWire) text(n int) string {
	for _, m := range p.row {
		if m.n == n {
			return m.text
		}
	}
	return ""
}

func (p *plainWire) shown() []string {
	var l []string
	for _, m := range p.row {
		l = append(l, shown(m.n, m.text))
	}
	return l
}

func (p *plainWire) next() int {
	for _, m := range p.row {
		return m.n
	}
	return 0
}

// with: the row in which the message is what becomes of it.
func (p *plainWire) with(becomes func(plainMessage) []plainMessage) {
	var row []plainMessage
	for _, m := range p.row {
		row = append(row, becomes(m)...)
	}
	p.row = row
}

func (p *plainWire) put(text string) (int, api.Errno) {
	if p.given == 4096 {
		return 0, api.ErrWireFull
	}
	p.given++
	p.row = slices.Concat(p.row, []plainMessage{{p.given, text}})
	return p.given, api.OK
}

func (p *plainWire) send(text string) (int, api.Errno) {
	if len(text) > 1048576 {
		return 0, api.ErrMessageLong
	}
	return p.put(text)
}

func (p *plainWire) look(n int) (string, api.Errno) {
	if !p.there(n) {
		return "", api.ErrNoMessage
	}
	return p.text(n), api.OK
}

func (p *plainWire) take(n int) (string, api.Errno) {
	text, err := p.look(n)
	p.with(func(m plainMessage) []plainMessage {
		if m.n == n {
			return nil
		}
		return []plainMessage{m}
	})
	return text, err
}

func (p *plainWire) copied(n int) (int, api.Errno) {
	if !p.there(n) {
		return 0, api.ErrNoMessage
	}
	return p.put(p.text(n))
}

func (p *plainWire) swap(n, o int) api.Errno {
	if !p.there(n) || !p.there(o) {
		return api.ErrNoMessage
	}
	first, second := plainMessage{n, p.text(n)}, plainMessage{o, p.text(o)}
	p.with(func(m plainMessage) []plainMessage {
		switch m {
		case first:
			return []plainMessage{second}
		case second:
			return []plainMessage{first}
		}
		return []plainMessage{m}
	})
	return api.OK
}

// become: the message has this text from now on.
func (p *plainWire) become(n int, text string) api.Errno {
	p.with(func(m plainMessage) []plainMessage {
		if m.n == n {
			return []plainMessage{{n, text}}
		}
		return []plainMessage{m}
	})
	return api.OK
}

// lowest: the lowest eight bits of the two's complement, by division.
func lowest(bits int) byte { return byte((bits%256 + 256) % 256) }

func (p *plainWire) flip(n, at, bits int) api.Errno {
	text := p.text(n)
	switch {
	case !p.there(n):
		return api.ErrNoMessage
	case at < 0 || at >= len(text):
		return api.ErrPlace
	}
	return p.become(n, text[:at]+string([]byte{text[at] ^ lowest(bits)})+text[at+1:])
}

func (p *plainWire) cut(n, length int) api.Errno {
	text := p.text(n)
	switch {
	case !p.there(n):
		return api.ErrNoMessage
	case length < 0 || length > len(text):
		return api.ErrPlace
	}
	return p.become(n, text[:length])
}

// Kinds of calls.
const (
	callSend = iota
	callLook
	callTake
	callDrop
	callCopy
	callSwap
	callFlip
	callCut
	callNext
	callWaiting
	callKinds
)

// call: with what it was answered; what its kind isn't given or doesn't answer is zero.
type call struct {
	kind    int
	text    string
	n, m, k int

	number int
	err    api.Errno
	bytes  string
	row    []string
}

func (c call) same(o call) bool {
	return c.number == o.number && c.err == o.err && c.bytes == o.bytes && slices.Equal(c.row, o.row)
}

// String: messages may have any bytes, so they are quoted.
func (c call) String() string {
	return fmt.Sprintf("{%d of %.20q, %d, %d, %d: %d, %d, %.50q, %.100q}", c.kind, c.text, c.n, c.m, c.k, c.number, c.err, c.bytes, c.row)
}

// of: the call, answered by the wire.
func (c call) of(w *wire.Wire) call {
	var b []byte
	switch c.kind {
	case callSend:
		c.number, c.err = w.Send([]byte(c.text))
	case callLook:
		b, c.err = w.Look(c.n)
	case callTake:
		b, c.err = w.Take(c.n)
	case callDrop:
		c.err = w.Drop(c.n)
	case callCopy:
		c.number, c.err = w.Copy(c.n)
	case callSwap:
		c.err = w.Swap(c.n, c.m)
	case callFlip:
		c.err = w.Flip(c.n, c.m, c.k)
	case callCut:
		c.err = w.Cut(c.n, c.m)
	case callNext:
		c.number = w.Next()
	case callWaiting:
		c.row = rowOf(w)
	}
	c.bytes = string(b)
	return c
}

// ofPlain: the call, answered by the row told by hand.
func (c call) ofPlain(p *plainWire) call {
	switch c.kind {
	case callSend:
		c.number, c.err = p.send(c.text)
	case callLook:
		c.bytes, c.err = p.look(c.n)
	case callTake:
		c.bytes, c.err = p.take(c.n)
	case callDrop:
		_, c.err = p.take(c.n)
	case callCopy:
		c.number, c.err = p.copied(c.n)
	case callSwap:
		c.err = p.swap(c.n, c.m)
	case callFlip:
		c.err = p.flip(c.n, c.m, c.k)
	case callCut:
		c.err = p.cut(c.n, c.m)
	case callNext:
		c.number = p.next()
	case callWaiting:
		c.row = p.shown()
	}
	return c
}

// watched: a wire, and a row told by hand to which the same calls come.
type watched struct {
	t *testing.T
	w *wire.Wire
	p *plainWire
}

func watch(t *testing.T) *watched { return &watched{t, wire.New(), &plainWire{}} }

// do: the call, answered by both.
func (x *watched) do(c call) call {
	x.t.Helper()
	got, want := c.of(x.w), c.ofPlain(x.p)
	if !got.same(want) {
		x.t.Errorf("P23.1 to P23.8: a call is answered %v, want %v", got, want)
	}
	return got
}

func (x *watched) look() {
	x.t.Helper()
	wantRow(x.t, x.w, x.p.shown()...)
}

// chosen: calls by chance, the same at every run.
type chosen struct{ *rand.Rand }

func newChosen(seed int64) *chosen { return &chosen{rand.New(rand.NewSource(seed))} }

func one[T any](c *chosen, of ...T) T { return of[c.Intn(len(of))] }

// number: mostly of a message that is there.
func (c *chosen) number(p *plainWire) int {
	switch {
	case c.Intn(8) == 0:
		return one(c, farNumbers()...)
	case c.Intn(6) == 0 || len(p.row) == 0:
		return c.Intn(p.given + 2)
	}
	return one(c, p.row...).n
}

// place: mostly in a text of that length, or at its ends.
func (c *chosen) place(length int) int {
	if c.Intn(8) == 0 {
		return one(c, -1, length, length+1, math.MinInt, math.MaxInt)
	}
	return c.Intn(length + 1)
}

// call: of a kind by chance, with numbers and places of this row.
func (c *chosen) call(p *plainWire) call {
	return c.callOf(one(c, callSend, callSend, callSend, callCopy, callCopy, c.Intn(callKinds), c.Intn(callKinds), c.Intn(callKinds)), p)
}

func (c *chosen) callOf(kind int, p *plainWire) call {
	x := call{kind: kind}
	switch kind {
	case callSend:
		x.text = one(c, contents()...)
	case callLook, callTake, callDrop, callCopy:
		x.n = c.number(p)
	case callSwap:
		x.n, x.m = c.number(p), c.number(p)
	case callFlip:
		x.n = c.number(p)
		x.m, x.k = c.place(len(p.text(x.n))), one(c, 0, 1, 128, 255, 256, 257, -1, -256, c.Intn(256), math.MinInt, math.MaxInt)
	case callCut:
		x.n = c.number(p)
		x.m = c.place(len(p.text(x.n)))
	}
	return x
}
