package cert_test

import (
	"slices"
	"strings"
	"testing"

	"hearsay/api"
)

// P19.3: Read.

// seals: any 32 bytes may be one.
func seals() []string {
	return texts(strings.Repeat("\x00", 32), strings.Repeat("\xff", 32), unhex(exampleSeal), "HSC1\x03ann\x00\x02ok\x00\x00\x00"+strings.Repeat("\x00", 17), unhex(strings.Repeat("00 02 6f 6b 00 00 00 00", 4)))
}

// TestReadWhoeverMadeIt: no ring is asked, and the seal may be any.
func TestReadWhoeverMadeIt(t *testing.T) {
	for _, u := range principals() {
		for _, c := range smallClauses() {
			for _, seal := range seals() {
				wantRead(t, plainBody(u, c)+seal, api.Cert{Signer: u, Clause: c, Seal: api.Digest([]byte(seal))})
			}
		}
	}
	for _, c := range validClauses() {
		wantRead(t, plainBody("ann", c)+seals()[1], api.Cert{Signer: "ann", Clause: c, Seal: api.Digest([]byte(seals()[1]))})
	}
}

// TestOtherBeginnings: each of the first bytes made into each other one, whatever stands behind; and fewer than four.
func TestOtherBeginnings(t *testing.T) {
	for place := range 4 {
		for bits := 1; bits < 256; bits++ {
			wantNotRead(t, turned(exampleCert(), place, byte(bits)), api.ErrMagic)
			wantNotRead(t, turned("HSC1", place, byte(bits)), api.ErrMagic)
			wantNotRead(t, turned("HSC1\x00", place, byte(bits)), api.ErrMagic)
		}
		wantNotRead(t, "HSC1"[:place], api.ErrMagic)
	}
	for _, b := range texts("\x00HSC1", "hsc1", "HSC", "HSC\x00", "1CSH", "HHSC1", "HSC2", "HSC0", "HSC", "\xff", strings.Repeat("\x00", 1000), exampleCert()[1:], exampleCert()[4:]) {
		wantNotRead(t, b, api.ErrMagic)
	}
}

// TestSignersLength: each byte that may stand there, with nothing behind it, with a byte too few, with just the signer, and with all that is needed.
func TestSignersLength(t *testing.T) {
	said, seal := clauseBytes(fact("ok")), seals()[2]
	wantNotRead(t, "HSC1", api.ErrShort)
	for n := range 256 {
		begin := "HSC1" + string([]byte{byte(n)})
		if n == 0 || n > 64 {
			for _, behind := range texts("", "\x00", long(max(0, n-1)), long(n), long(n)+seal, long(n)+said+seal, long(n)+said+seal+"\x00", long(n)+"\x09"+seal) {
				wantNotRead(t, begin+behind, api.ErrCode)
			}
			continue
		}
		for short := range n {
			wantNotRead(t, begin+long(short), api.ErrShort)
		}
		for short := range 32 {
			wantNotRead(t, begin+long(n)+seal[:short], api.ErrShort)
		}
		wantNotRead(t, begin+long(n)+seal, api.ErrShort)
		wantRead(t, begin+long(n)+said+seal, api.Cert{Signer: long(n), Clause: fact("ok"), Seal: api.Digest([]byte(seal))})
	}
}

// TestLengthMovesTheBorder: the example's bytes with every other length of the name, as chapter 6 reads what is left of the clause.
func TestLengthMovesTheBorder(t *testing.T) {
	for n := range 256 {
		b := exampleCert()[:4] + string([]byte{byte(n)}) + exampleCert()[5:]
		if _, err := plainRead(b); n != 3 {
			wantNotRead(t, b, err)
		}
	}
	for n, want := range map[int]api.Errno{0: api.ErrCode, 1: api.ErrCode, 2: api.ErrCode, 4: api.ErrCode, 5: api.ErrCode, 8: api.ErrCode, 9: api.ErrShort, 10: api.ErrShort, 11: api.ErrShort, 42: api.ErrShort, 43: api.ErrShort, 64: api.ErrShort, 65: api.ErrCode} {
		wantNotRead(t, exampleCert()[:4]+string([]byte{byte(n)})+exampleCert()[5:], want)
	}
}

// TestEveryBeginning: ErrMagic, then ErrShort; not a byte may be missing.
func TestEveryBeginning(t *testing.T) {
	for _, u := range principals() {
		for _, c := range smallClauses() {
			b := plainBody(u, c) + seals()[2]
			for n := range b {
				if n < 4 {
					wantNotRead(t, b[:n], api.ErrMagic)
				} else {
					wantNotRead(t, b[:n], api.ErrShort)
				}
			}
		}
	}
}

// TestBytesBehind: one, and more, whatever they are.
func TestBytesBehind(t *testing.T) {
	for _, u := range principals() {
		for _, c := range smallClauses() {
			b := plainBody(u, c) + seals()[2]
			for _, behind := range append(seals(), "\x00", "\xff", "\x00\x00", "ab", strings.Repeat("\x00", 31), strings.Repeat("\x00", 33), strings.Repeat("\x00", 5000), b, clauseBytes(c), clauseBytes(c)+seals()[0]) {
				wantNotRead(t, b+behind, api.ErrTail)
			}
		}
	}
}

// TestClausesThatAreNotRead: short, or such as can't be; the seal's bytes aren't taken for the clause's.
func TestClausesThatAreNotRead(t *testing.T) {
	for _, seal := range seals() {
		for _, c := range smallClauses() {
			said := clauseBytes(c)
			for n := range said {
				wantNotRead(t, "HSC1\x03ann"+said[:n]+seal, api.ErrShort)
			}
		}
		for _, w := range readableWrongs() {
			for _, behind := range texts("", "\x00", "\xff\xff") {
				wantNotRead(t, plainBody("ann", w.c)+behind+seal, api.ErrCode)
			}
		}
		for _, said := range []string{"01", "04", "ff", "02 00", "02 41", "00 00", "00 21", "00 01 58 00", "00 01 70 09", "00 01 70 01 00", "00 01 70 00 09", "00 01 70 00 00 09", "00 01 70 00 00 01 05", "00 04 73 61 79 73 00 00 00", "00 02 6f 6b 00 00 01 00"} {
			wantNotRead(t, "HSC1\x03ann"+unhex(said)+seal, api.ErrCode)
		}
	}
}

// TestQualifiedHeads: ErrCode; but what ReadClause refuses comes first.
func TestQualifiedHeads(t *testing.T) {
	for _, c := range qualifiedClauses() {
		body, seal := plainBody("ann", c), seals()[2]
		wantNotRead(t, body+seal, api.ErrCode)
		wantNotRead(t, sealed("s", "ann", body), api.ErrCode)
		for _, behind := range texts("\x00", "\xff", seal) {
			wantNotRead(t, body+behind+seal, api.ErrTail)
		}
		wantNotRead(t, body[:len(body)-1]+seal, api.ErrShort)
		wantNotRead(t, body[:9]+seal, api.ErrShort)
	}
}

// TestFaultsInTheirOrder: bytes with each of P19.3's faults, in their order; each has all the later ones that it can have as well.
func TestFaultsInTheirOrder(t *testing.T) {
	const tail = "\x02\x03bob\x02ok\x00\x00\x00" // bob says ok.
	for _, x := range []struct {
		b    string
		want api.Errno
	}{
		{"HSC", api.ErrMagic}, {"HSC2", api.ErrMagic}, {"HSC2\x00", api.ErrMagic}, {"HSC2\x41" + tail, api.ErrMagic}, {"HSC2\x03an", api.ErrMagic}, {"HSC2\x03ann" + tail, api.ErrMagic},
		{"HSC1", api.ErrShort}, {"HSC1\x00", api.ErrCode}, {"HSC1\x00" + tail, api.ErrCode}, {"HSC1\x41", api.ErrCode}, {"HSC1\xff" + tail, api.ErrCode},
		{"HSC1\x40" + tail, api.ErrShort}, {"HSC1\x03an", api.ErrShort},
		{"HSC1\x03ann" + tail, api.ErrShort}, {"HSC1\x03ann\x09" + strings.Repeat("\x09", 30), api.ErrShort}, {"HSC1\x03ann\x09" + strings.Repeat("\x09", 31), api.ErrShort},
		{"HSC1\x03ann\x09" + strings.Repeat("\x09", 32), api.ErrCode}, {"HSC1\x03ann" + tail + seals()[0], api.ErrCode}, {"HSC1\x03ann" + tail + "\x00" + seals()[0], api.ErrTail},
		{"HSC1\x03ann\x02\x03bob\x02ok\x00\x00" + seals()[0], api.ErrShort}, {"HSC1\x03ann\x02\x03bob\x02ok\x00\x09" + seals()[0], api.ErrCode},
	} {
		wantNotRead(t, x.b, x.want)
	}
}

// wantAsPlain: Read answers what the plain one does; and what is read is written so again.
func wantAsPlain(t *testing.T, b string) bool {
	t.Helper()
	want, err := plainRead(b)
	if err != api.OK {
		wantNotRead(t, b, err)
		return false
	}
	wantRead(t, b, want)
	wantBody(t, want.Signer, want.Clause, bodyOf(b))
	return true
}

// TestSpoiltByChance: beside the plain reader; of those that are read at all, and of those that aren't, there are many.
func TestSpoiltByChance(t *testing.T) {
	c := newChosen(191)
	told := map[api.Errno]int{}
	for _, x := range validClauses() {
		u := one(c, principals()...)
		b := plainBody(u, x) + one(c, seals()...)
		for range 60 {
			b := c.spoilt(b)
			wantAsPlain(t, b)
			_, err := plainRead(b)
			told[err]++
		}
	}
	for _, err := range []api.Errno{api.OK, api.ErrMagic, api.ErrShort, api.ErrCode, api.ErrTail} {
		if told[err] < 100 {
			t.Errorf("too much alike: %v", told)
		}
	}
}

// TestEveryFewBytes: all strings of few of these bytes, between the beginning and the seal, and behind the beginning alone.
func TestEveryFewBytes(t *testing.T) {
	over := []byte{0, 1, 2, 3, 'p', 0x41}
	read := 0
	var all func(b []byte, most int)
	all = func(b []byte, most int) {
		for _, x := range texts("HSC1"+string(b), "HSC1"+string(b)+seals()[0], "HSC1\x01a\x00"+string(b)+seals()[0]) {
			if wantAsPlain(t, x) {
				read++
			}
		}
		if len(b) < most {
			for _, x := range over {
				all(append(slices.Clip(b), x), most)
			}
		}
	}
	all(nil, 5)
	if read == 0 {
		t.Error("none was read")
	}
}
