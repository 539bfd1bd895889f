package bundle_test

import (
	"slices"
	"strings"
	"testing"

	"hearsay/api"
)

// P21.2: Read.

// wantAsPlain: what the chapter's words make of the bytes; whether they are read.
func wantAsPlain(t *testing.T, b string) bool {
	t.Helper()
	want, err := plainRead(b)
	if err != api.OK {
		wantNotRead(t, b, err)
		return false
	}
	wantRead(t, b, want)
	return true
}

func TestRead(t *testing.T) {
	for _, x := range bundles() {
		wantRead(t, plainWrite(x), x)
	}
	for _, goal := range goals() {
		x := held{goal, texts("", "x"), api.Proof{}}
		wantRead(t, plainWrite(x), x)
	}
}

// TestEveryCut: not a byte may be missing.
func TestEveryCut(t *testing.T) {
	for _, x := range smallBundles() {
		b := plainWrite(x)
		for n := range b {
			wantNotRead(t, b[:n], api.ErrBundle)
		}
	}
	for _, x := range bundles() {
		b := plainWrite(x)
		for _, n := range []int{1, 2, 3, 4, 5, 8, 9, 12, 16, len(b) / 2} {
			wantNotRead(t, b[:len(b)-n], api.ErrBundle)
		}
	}
}

// TestBytesBehind: one, and more, whatever they are.
func TestBytesBehind(t *testing.T) {
	for _, x := range bundles() {
		b := plainWrite(x)
		for _, behind := range texts("\x00", "\xff", "H", "HSB1", number4(0), number4(1)+"x", partBytes(proofBytes(x.p)), string(make([]byte, 5000))) {
			wantNotRead(t, b+behind, api.ErrBundle)
		}
		if len(b) < 2000 {
			wantNotRead(t, b+b, api.ErrBundle)
		}
	}
}

// TestEveryByteChanged: into each other one.
func TestEveryByteChanged(t *testing.T) {
	read := 0
	for _, x := range append(smallBundles()[:12], exampleBundle()) {
		b := plainWrite(x)
		for i := range b {
			for bits := 1; bits < 256; bits++ {
				if wantAsPlain(t, turned(b, i, byte(bits))) {
					read++
				}
			}
		}
	}
	if read < 5000 {
		t.Errorf("just %d were read", read)
	}
}

// TestOtherBeginnings: the first four bytes are just these.
func TestOtherBeginnings(t *testing.T) {
	b := plainWrite(exampleBundle())
	for place := range 4 {
		for bits := 1; bits < 256; bits++ {
			wantNotRead(t, turned(b, place, byte(bits)), api.ErrBundle)
		}
	}
	for _, begin := range texts("", "H", "HSB", "hsb1", "HSC1", "HSB0", "1BSH", "HSB1HSB1", "\x00HSB1", "HHSB1") {
		wantNotRead(t, begin+b[4:], api.ErrBundle)
		wantNotRead(t, begin, api.ErrBundle)
	}
	wantNotRead(t, "HSB1", api.ErrBundle)
}

// parts: a bundle's bytes as they stand one behind the other: the beginning, the goal, the number of certificates, each of these, the derivation.
type parts struct {
	begin   string
	goal    string
	count   string
	certs   []string
	derived string
}

func partsOf(x held) parts {
	p := parts{"HSB1", partBytes(atomBytes(x.goal)), number4(len(x.certs)), nil, partBytes(proofBytes(x.p))}
	for _, b := range x.certs {
		p.certs = append(p.certs, partBytes(b))
	}
	return p
}

func (p parts) bytes() string {
	return p.begin + p.goal + p.count + strings.Join(p.certs, "") + p.derived
}

// lengths: what might stand in the place of this number.
func lengths(n int) []string {
	var out []string
	for _, k := range []int{0, 1, 2, 3, n - 9, n - 8, n - 4, n - 2, n - 1, n + 1, n + 2, n + 4, n + 5, n + 8, n + 100, 2 * n, n << 8, n + 1<<8, n + 1<<16, n + 1<<24, n + 1<<31, 1<<31 - 1, 1 << 31, 1<<31 + 1, 1<<32 - 1, 1<<32 - 4, 1<<32 - n} {
		if k >= 0 && k != n && k < 1<<32 {
			out = append(out, number4(k))
		}
	}
	return out
}

// TestLengths: of each part, too great or too small.
func TestLengths(t *testing.T) {
	for _, x := range smallBundles() {
		whole := partsOf(x)
		for _, n := range lengths(len(whole.goal) - 4) {
			p := whole
			p.goal = n + p.goal[4:]
			wantNotRead(t, p.bytes(), api.ErrBundle)
		}
		for _, n := range lengths(len(whole.derived) - 4) {
			p := whole
			p.derived = n + p.derived[4:]
			wantNotRead(t, p.bytes(), api.ErrBundle)
		}
		for i, b := range whole.certs {
			for _, n := range lengths(len(b) - 4) {
				p := whole
				p.certs = slices.Clone(p.certs)
				p.certs[i] = n + b[4:]
				wantAsPlain(t, p.bytes())
			}
		}
	}
}

// TestOnePartIntoAnother: a certificate's border may stand elsewhere; but a part too few or too many there isn't.
func TestOnePartIntoAnother(t *testing.T) {
	x := held{goal: atom("ok"), certs: texts("ab", "cd")}
	whole := partsOf(x)
	p := whole
	p.certs = texts("\x00\x00\x00\x08ab\x00\x00\x00\x02cd", "")
	p.count = number4(1)
	wantRead(t, p.bytes(), held{goal: atom("ok"), certs: texts("ab\x00\x00\x00\x02cd")})
	p.count = number4(2)
	wantNotRead(t, p.bytes(), api.ErrBundle)
	p = whole
	p.certs = texts("\x00\x00\x00\x00", "\x00\x00\x00\x01a")
	wantRead(t, p.bytes(), held{goal: atom("ok"), certs: texts("", "a")})
	p.derived = partBytes(proofBytes(api.Proof{})) + partBytes(proofBytes(api.Proof{}))
	wantNotRead(t, p.bytes(), api.ErrBundle)
	p.count = number4(3)
	wantRead(t, p.bytes(), held{goal: atom("ok"), certs: texts("", "a", proofBytes(api.Proof{}))})
}

// TestCounts: of certificates, too great and too small.
func TestCounts(t *testing.T) {
	for _, x := range smallBundles() {
		whole := partsOf(x)
		for _, n := range lengths(len(whole.certs)) {
			p := whole
			p.count = n
			wantNotRead(t, p.bytes(), api.ErrBundle)
		}
	}
	for n := range 1000 {
		wantNotRead(t, "HSB1"+partBytes(atomBytes(atom("ok")))+number4(1<<32-1-n)+strings.Repeat("\x00", 4*n), api.ErrBundle)
	}
}

// TestGoalsThatArent: a part that begins with an atom, or has one in it, or whose bytes are another thing's.
func TestGoalsThatArent(t *testing.T) {
	x := exampleBundle()
	goal := atomBytes(x.goal)
	for _, b := range texts(
		"", goal+"\x00", goal+goal, "\x00"+goal, goal[:len(goal)-1], partBytes(goal), clauseBytes(rule(x.goal)), clauseBytes(rule(atom("ok"))), proofBytes(x.p), "HSB1",
		"\x00\x04says\x00", "\x00\x01P\x00", "\x00\x00\x00", "\x00\x01p\x09"+strings.Repeat("\x02\x00", 9), "\x02\x00\x01p\x00", "\x01"+number8(1)+"\x01p\x00", "\x00\x01p\x01\x00", "\x00\x01p\x01\x02\x41"+long(65),
		"\x00\x01p\x01\x03"+number8(-1), "\x00\x21"+long(33)+"\x00", "\x04",
	) {
		p := partsOf(x)
		p.goal = partBytes(b)
		wantNotRead(t, p.bytes(), api.ErrBundle)
		p.certs, p.count = nil, number4(0)
		wantNotRead(t, p.bytes(), api.ErrBundle)
	}
}

// TestDerivationsThatArent: likewise; and rules that aren't valid, and numbers below 0.
func TestDerivationsThatArent(t *testing.T) {
	x := exampleBundle()
	derived := proofBytes(x.p)
	all := texts("", derived+"\x00", derived+derived, "\x00"+derived, derived[:len(derived)-1], partBytes(derived), number4(0), number4(0)+number4(1), number4(1)+number4(0), number4(1<<32-1)+number4(0), number4(0)+number4(1<<32-1), longList(x.p.Rules, clauseBytes), "HSB1")
	for _, w := range wrongClauses() {
		if slices.Contains([]api.Errno{api.ErrHead, api.ErrSafe, api.ErrNumbering, api.ErrName}, w.err) && len(w.c.Head.Name) < 256 {
			all = append(all, proofBytes(derivation(rules(w.c))), proofBytes(derivation(append(rules(w.c), x.p.Rules...), x.p.Steps...)))
		}
	}
	for _, s := range []api.Step{step(-1, nil), step(leastInt, nil), step(0, nil, -1), step(0, []api.Term{v(0)}), step(0, []api.Term{none}), step(0, []api.Term{txt(long(65))})} {
		all = append(all, proofBytes(derivation(x.p.Rules, s)), proofBytes(derivation(nil, step(0, nil), s)))
	}
	for _, b := range all {
		p := partsOf(x)
		p.derived = partBytes(b)
		wantNotRead(t, p.bytes(), api.ErrBundle)
		p.certs, p.count = nil, number4(0)
		wantNotRead(t, p.bytes(), api.ErrBundle)
	}
}

// TestPartsAmiss: one is missing, comes twice, or two stand about.
func TestPartsAmiss(t *testing.T) {
	for _, x := range append(smallBundles(), exampleBundle()) {
		p := partsOf(x)
		certs := strings.Join(p.certs, "")
		for _, b := range texts(
			p.goal+p.count+certs+p.derived, p.begin+p.count+certs+p.derived, p.begin+p.goal+certs+p.derived, p.begin+p.goal+p.count+certs,
			p.begin+p.begin+p.goal+p.count+certs+p.derived, p.begin+p.goal+p.goal+p.count+certs+p.derived, p.begin+p.goal+p.count+certs+p.derived+p.derived,
			p.begin+p.count+certs+p.goal+p.derived, p.begin+p.derived+p.count+certs+p.goal, p.begin+p.goal+p.derived+p.count+certs,
		) {
			wantAsPlain(t, b)
		}
	}
}

// TestTooManyBytes: whatever they are, it is told ahead of all else; one byte less is read, or isn't a bundle.
func TestTooManyBytes(t *testing.T) {
	x := exampleBundle()
	x.certs = append(x.certs, "")
	x.certs[2] = long(api.MaxBundle - len(plainWrite(x)))
	full := plainWrite(x)
	wantRead(t, full, x)
	x.certs[2] += "a"
	longer := plainWrite(x)
	if len(full) != 1048576 || len(longer) != 1048577 {
		t.Fatalf("%d and %d bytes", len(full), len(longer))
	}
	for _, b := range texts(longer, full+"\x00", "\x00"+full, long(1048577), strings.Repeat("\x00", 1048577), "HSB1"+strings.Repeat("\x00", 1048573), "HSB1"+strings.Repeat("\xff", 1048573), longer+longer, strings.Repeat(plainWrite(exampleBundle()), 20000)) {
		wantNotRead(t, b, api.ErrBundleLong)
	}
	for _, b := range texts(longer[:1048576], full[1:]+"\x00", full[:1048575], long(1048576), strings.Repeat("\x00", 1048576), "HSB1"+strings.Repeat("\x00", 1048572), "HSB1"+strings.Repeat("\xff", 1048572)) {
		wantNotRead(t, b, api.ErrBundle)
	}
}

// TestReadByChance: bundles spoilt in any way are read as the chapter's words have it.
func TestReadByChance(t *testing.T) {
	c := newChosen(212)
	small := append(smallBundles()[:20], exampleBundle())
	read := 0
	for range 30000 {
		b := c.spoilt(plainWrite(one(c, small...)))
		if wantAsPlain(t, b) {
			read++
		}
	}
	if read < 1500 {
		t.Errorf("just %d were read", read)
	}
}
