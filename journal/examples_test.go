package journal_test

import (
	"strings"
	"testing"

	"hearsay/api"
	"hearsay/journal"
)

// The examples of chapter 22, one by one. The digests were worked out by another program.

const (
	exampleHead   = "48 53 4A 31 | 03 61 6e 6e"
	exampleD0     = "bc31863fab5e357b910e6c4c11d76d0d5a06c4f83343049622b91c4bf42d8a35"
	exampleRecord = "00 00 00 08 | 01 | 00 02 6f 6b 00 00 00"
	exampleD1     = "3b148a5b3ff91ffebaba61edc428303d5183be8a1c523e9ba18b813a53bb560f"
)

// exampleEmpty, exampleNoted: the bytes of examples 1 and 2.
func exampleEmpty() string { return unhex(exampleHead + exampleD0) }
func exampleNoted() string { return exampleEmpty() + unhex(exampleRecord+exampleD1) }

func wantBytes(t *testing.T, j *journal.Log, want, head string) {
	t.Helper()
	if got := j.Head(); string(j.Bytes()) != want || string(got[:]) != unhex(head) {
		t.Errorf("P22.3: the bytes are %x, the head is %x, want %x, %s", j.Bytes(), got, want, head)
	}
}

func TestExample1(t *testing.T) {
	if j, err := journal.New(""); j != nil || err != api.ErrPrincipal {
		t.Errorf("P22.1: New of no bytes is %v, %d", j, err)
	}
	if len(exampleEmpty()) != 40 || unhex(exampleD0) != sum(exampleEmpty()[:8]) {
		t.Fatalf("the example isn't the chapter's: %x", exampleEmpty())
	}
	j := newLog(t, "ann")
	wantBytes(t, j, exampleEmpty(), exampleD0)
	wantLog(t, j, "ann", nil)
}

func TestExample2(t *testing.T) {
	if len(exampleNoted()) != 84 || unhex(exampleD1) != sum(unhex(exampleD0+exampleRecord)) {
		t.Fatalf("the example isn't the chapter's: %x", exampleNoted())
	}
	j := newLog(t, "ann", assertion(fact("ok")))
	wantBytes(t, j, exampleNoted(), exampleD1)
	wantLog(t, j, "ann", records(assertion(fact("ok"))))
}

func TestExample3(t *testing.T) {
	j := newLog(t, "ann")
	wantNotNoted(t, j, records(
		api.Record{Kind: 0}, api.Record{Kind: 5}, api.Record{Kind: -1},
		api.Record{Kind: 0, Clause: fact("ok")}, api.Record{Kind: 5, Clause: fact("ok")}, api.Record{Kind: -1, Clause: fact("ok")},
		api.Record{Kind: 1, Clause: rule(atom("p", v(0)))},
		api.Record{Kind: 1, Clause: fact("ok"), Id: api.Digest{7: 1}}, api.Record{Kind: 1, Clause: fact("ok"), Bytes: []byte{0}},
		api.Record{Kind: 3, Bytes: []byte("no certificate")}, api.Record{Kind: 3},
		api.Record{Kind: 4, Clause: fact("ok")},
	)...)
	noted(t, j, api.Record{Kind: 4})
	wantLog(t, j, "ann", records(forgetting(api.Digest{})))
}

func TestExample4(t *testing.T) {
	b, one := exampleNoted(), records(assertion(fact("ok")))
	wantOpened(t, b, "ann", one)
	for n := 83; n >= 40; n-- {
		wantOpened(t, b[:n], "ann", nil)
	}
	for n := 39; n >= 0; n-- {
		wantNotOpened(t, b[:n])
	}
	wantOpened(t, b+"\x00", "ann", one)
	if b[44] != 1 {
		t.Fatalf("the example isn't the chapter's: %x", b)
	}
	wantOpened(t, turned(b, 44, 1^2), "ann", nil)
}

func TestExample5(t *testing.T) {
	b := exampleEmpty()
	wantNotOpened(t, b[:4]+"\x00"+b[5:])
	wantNotOpened(t, headBytes("HSJ1", 0, ""))
	wantNotOpened(t, headBytes("HSJ1", 0, "ann"))
	wantNotOpened(t, b[:8]+sum("another"))
	wantNotOpened(t, b[:8]+strings.Repeat("\x00", 32))
}

func TestExample6(t *testing.T) {
	for _, payload := range texts("", "\x00", "ok.", "\x00\x02ok\x00\x00", "\x00\x02ok\x00\x00\x00\x00", "\x00\x02Ok\x00\x00\x00") {
		for _, ahead := range texts(exampleEmpty(), exampleNoted()) {
			_, l, _, _ := plainOpen(ahead)
			b := handMade(ahead, 1+len(payload), api.RecAssert, payload)
			wantOpened(t, b, "ann", l)
			wantOpened(t, withRecord(b, assertion(fact("on"))), "ann", l)
		}
	}
}

func TestExample7(t *testing.T) {
	j := newLog(t, "ann", assertion(fact("ok")))
	wantNotAgain(t, j, ringOf(t, "s"), api.ErrUnknown)
	wantNotAgain(t, j, ringOf(t, "s", "bob"), api.ErrUnknown)
	x := wantAgain(t, j, ringOf(t, "s", "ann"))
	if own := x.Own(); x.Name() != "ann" || len(own) != 1 || !sameClause(own[0], fact("ok")) || len(x.Clauses()) != 1 || len(x.Certs()) != 0 {
		t.Errorf("P22.5: the context of %q has %+v, %+v, %x", x.Name(), own, x.Clauses(), x.Certs())
	}
	wantNotAgain(t, newLog(t, "ann", retraction(fact("ok"))), ringOf(t, "s", "ann"), api.ErrReplay)
}

// TestWorkedElsewhere: further digests, worked out by another program.
func TestWorkedElsewhere(t *testing.T) {
	const (
		d2      = "4e0b4473c7c3467103ef10f6067ad7fb16a99960f5caecd1bb0b27c84a103fe8"
		d3      = "4648a7a6cddd14521684cef256ca0210c09c2cbb99ecf52f762542bd4f168aee"
		longest = "1843b78303ebb9d9b5af6ccb65ec0ee53299ada323c731e2e592a20b143a9d4d" // the head's, of a name of 64 bytes
		seal    = "17cb347cf8d15ef562fef58a51999bd11d08268d917f2db09e1323795b14ba8c"
	)
	said := unhex("48 53 43 31 | 03 61 6e 6e | 00 02 6f 6b 00 00 00" + seal)
	j := newLog(t, "ann", assertion(fact("ok")), forgetting(api.Digest{}))
	third := exampleNoted() + unhex("00 00 00 21 | 04"+strings.Repeat("00", 32)+d2)
	wantBytes(t, j, third, d2)
	noted(t, j, taking(said))
	wantBytes(t, j, third+unhex("00 00 00 30 | 03")+said+unhex(d3), d3)
	wantBytes(t, newLog(t, long(64)), "HSJ1\x40"+long(64)+unhex(longest), longest)
}
