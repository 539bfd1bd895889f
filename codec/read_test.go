package codec_test

import (
	"runtime"
	"slices"
	"strings"
	"testing"

	"hearsay/api"
	"hearsay/clause"
)

// P6.2.

// behind: what may stand behind a fault: nothing, and bytes that would be another one.
func behind() [][]byte { return [][]byte{nil, {0}, {0xff}, slices.Repeat([]byte{0}, 40)} }

// wantFaultsOfParts: each part of the thing's bytes made into one that can't be so, with all ahead of it as it was. The fault is told whatever stands behind it, be it nothing; ahead of the part's last byte it is ErrShort.
func wantFaultsOfParts[T any](t *testing.T, f face[T], x T) {
	t.Helper()
	parts := f.parts(x)
	for i, p := range parts {
		ahead := joined(parts[:i])
		for _, wrong := range p.spoilt() {
			for _, b := range behind() {
				f.wantRefused(t, "P6.2", slices.Concat(ahead, wrong, b), api.ErrCode)
			}
			for n := range wrong {
				f.wantRefused(t, "P6.2", slices.Concat(ahead, wrong[:n]), api.ErrShort)
			}
		}
	}
}

// spoilt: bytes, as many, that the table hasn't at this part's place.
func (p part) spoilt() [][]byte {
	var out [][]byte
	switch p.kind {
	case isCode:
		for b := range 256 {
			if strings.IndexByte(p.may, byte(b)) < 0 {
				out = append(out, []byte{byte(b)})
			}
		}
	case isNatural:
		high := slices.Clone(p.bytes)
		high[0] |= 0x80
		out = append(out, high, slices.Repeat([]byte{0xff}, 8))
	case isName:
		for _, s := range noNames() {
			if len(s) == len(p.bytes) {
				out = append(out, []byte(s))
			}
		}
	}
	return out
}

func TestPartsThatCantBeSo(t *testing.T) {
	for _, a := range []api.Atom{
		atom("p"), atom("ok", num(leastInt)), says(txt("a"), "says_", txt(""), txt("xyz"), v(5)), says(v(greatestInt), long(32), v(greatestInt), num(-1)), atom("p", nTimes(8, v(1))...), atom("four"),
	} {
		wantFaultsOfParts(t, atoms(), a)
	}
	for _, c := range shownClauses()[:8] {
		wantFaultsOfParts(t, clauses(), c)
	}
	wantFaultsOfParts(t, sets(), clause.Set(shownClauses()[:5]))
	ok, p := rule(atom("ok")), with(rule(atom("p", v(0)), atom("q", v(0))), test(api.OpNe, v(0), txt("")))
	wantFaultsOfParts(t, proofs(), proof(list(p, ok, p), step(0, nil), step(7, []api.Term{num(5), txt(""), txt("ab")}, 0, greatestInt, 5), step(greatestInt, nil)))
}

// TestLengthsAtTheirBounds: the least and the greatest of each length, and one more.
func TestLengthsAtTheirBounds(t *testing.T) {
	atomOf := func(by []byte, name string, args ...byte) []byte {
		return slices.Concat(by, []byte{byte(len(name))}, []byte(name), args)
	}
	text := func(n int) []byte { return append([]byte{2, byte(n)}, long(n)...) }
	for _, n := range []int{1, 2, 63, 64} {
		atoms().wantRead(t, "P6.2", atomOf(text(n), "p", 0), says(txt(long(n)), "p"))
	}
	for _, n := range []int{0, 1, 63, 64} {
		atoms().wantRead(t, "P6.2", atomOf([]byte{0}, "p", append([]byte{1}, text(n)...)...), atom("p", txt(long(n))))
	}
	for _, n := range []int{0, 65, 66, 128, 255} {
		atoms().wantRefused(t, "P6.2", atomOf(text(n), "p", 0), api.ErrCode)
	}
	for _, n := range []int{65, 66, 128, 255} {
		atoms().wantRefused(t, "P6.2", atomOf([]byte{0}, "p", append([]byte{1}, text(n)...)...), api.ErrCode)
	}
	for _, n := range []int{1, 2, 31, 32} {
		atoms().wantRead(t, "P6.2", atomOf([]byte{0}, long(n), 0), atom(long(n)))
	}
	for _, n := range []int{0, 33, 34, 255} {
		atoms().wantRefused(t, "P6.2", atomOf([]byte{0}, long(n), 0), api.ErrCode)
	}
	number := append([]byte{1}, slices.Repeat([]byte{0xff}, 8)...)
	for n := range 12 {
		b := atomOf([]byte{0}, "p", append([]byte{byte(n)}, slices.Repeat(number, n)...)...)
		if n <= 8 {
			atoms().wantRead(t, "P6.2", b, atom("p", nTimes(n, num(-1))...))
		} else {
			atoms().wantRefused(t, "P6.2", b, api.ErrCode)
		}
	}
}

// TestNumbersAtTheirBounds: a variable, a rule and a use go to 2^63 - 1; a number may be any.
func TestNumbersAtTheirBounds(t *testing.T) {
	const greatest, above, highest = "7f ff ff ff ff ff ff ff", "80 00 00 00 00 00 00 00", "ff ff ff ff ff ff ff ff"
	for text, n := range map[string]int{zero8: 0, greatest: greatestInt} {
		atoms().wantRead(t, "P6.2", unhex("00 01 70 01 03"+text), atom("p", v(n)))
		atoms().wantRead(t, "P6.2", unhex("03"+text+"01 70 00"), says(v(n), "p"))
		proofs().wantRead(t, "P6.2", unhex("00000000 00000001"+text+zero8), proof(nil, step(n, nil)))
		proofs().wantRead(t, "P6.2", unhex("00000000 00000001"+zero8+"00000000 00000001"+text), proof(nil, step(0, nil, n)))
	}
	for _, text := range []string{above, highest} {
		atoms().wantRefused(t, "P6.2", unhex("00 01 70 01 03"+text), api.ErrCode)
		atoms().wantRefused(t, "P6.2", unhex("03"+text+"01 70 00"), api.ErrCode)
		proofs().wantRefused(t, "P6.2", unhex("00000000 00000001"+text+zero8), api.ErrCode)
		proofs().wantRefused(t, "P6.2", unhex("00000000 00000001"+zero8+"00000000 00000001"+text), api.ErrCode)
	}
	for text, n := range map[string]int{zero8: 0, greatest: greatestInt, above: leastInt, highest: -1} {
		atoms().wantRead(t, "P6.2", unhex("00 01 70 01 01"+text), atom("p", num(n)))
		proofs().wantRead(t, "P6.2", unhex("00000000 00000001"+zero8+"00000001 01"+text+"00000000"), proof(nil, step(0, []api.Term{num(n)})))
	}
}

// partlyWrong: clauses of which each part is as the table has it, but which aren't valid.
func partlyWrong() []api.Clause {
	x, y := v(0), v(1)
	return []api.Clause{
		rule(atom("p", x)), rule(says(x, "p"), atom("q", x)), rule(atom("p"), atom("q", y)), rule(atom("p", y), atom("q", x, y)), rule(atom("p", v(greatestInt)), atom("q", v(greatestInt))),
		with(rule(atom("p")), test(1, x, num(1))), with(rule(atom("p", x), atom("q", x)), test(4, num(1), y)), rule(says(x, "p", x)),
	}
}

// TestClausesThatAreNotValid: told with the last byte, not ahead of it and not behind it; ErrRising and ErrTail come later.
func TestClausesThatAreNotValid(t *testing.T) {
	p, q, one, two := joined(clauseParts(rule(atom("p")))), joined(clauseParts(rule(atom("q")))), unhex("00 00 00 01"), unhex("00 00 00 02")
	for _, c := range partlyWrong() {
		wrong := joined(clauseParts(c))
		for _, b := range behind() {
			clauses().wantRefused(t, "P6.2", slices.Concat(wrong, b), api.ErrCode)
			sets().wantRefused(t, "P6.2", slices.Concat(one, wrong, b), api.ErrCode)
			sets().wantRefused(t, "P6.2", slices.Concat(two, wrong, b), api.ErrCode)
			sets().wantRefused(t, "P6.2", slices.Concat(two, q, wrong, b), api.ErrCode)
			sets().wantRefused(t, "P6.2", slices.Concat(two, p, wrong, b), api.ErrCode)
			proofs().wantRefused(t, "P6.2", slices.Concat(one, wrong, b), api.ErrCode)
			proofs().wantRefused(t, "P6.2", slices.Concat(two, q, wrong, b), api.ErrCode)
		}
		for n := range wrong {
			clauses().wantRefused(t, "P6.2", wrong[:n], api.ErrShort)
			sets().wantRefused(t, "P6.2", slices.Concat(two, q, wrong[:n]), api.ErrShort)
			proofs().wantRefused(t, "P6.2", slices.Concat(two, q, wrong[:n]), api.ErrShort)
		}
	}
}

// TestSetsThatDontRise: every pair; told with the second one's last byte.
func TestSetsThatDontRise(t *testing.T) {
	two := unhex("00 00 00 02")
	for _, c := range shownClauses() {
		for _, d := range shownClauses() {
			first, second := joined(clauseParts(c)), joined(clauseParts(d))
			if clause.Compare(c, d) < 0 {
				sets().wantRead(t, "P6.2", slices.Concat(two, first, second), list(c, d))
				continue
			}
			for _, b := range behind() {
				sets().wantRefused(t, "P6.2", slices.Concat(two, first, second, b), api.ErrRising)
				sets().wantRefused(t, "P6.2", slices.Concat(unhex("ff ff ff ff"), first, second, b), api.ErrRising)
			}
			sets().wantRefused(t, "P6.2", slices.Concat(two, first, second[:len(second)-1]), api.ErrShort)
		}
	}
	p, q, r := rule(atom("p")), rule(atom("q")), rule(atom("r"))
	sets().wantRefused(t, "P6.2", joined(setParts(list(p, r, q))), api.ErrRising)
	sets().wantRefused(t, "P6.2", joined(setParts(list(p, q, q))), api.ErrRising)
	sets().wantRefused(t, "P6.2", joined(setParts(list(q, p, rule(atom("r", v(0)))))), api.ErrRising)
	sets().wantRead(t, "P6.2", joined(setParts(list(p, q, r))), list(p, q, r))
}

// TestDerivationsNeedNotRiseNorHold: what would be ErrRising in a set is read in a derivation.
func TestDerivationsNeedNotRiseNorHold(t *testing.T) {
	for _, d := range writableProofs() {
		proofs().wantRead(t, "P6.2", joined(proofParts(d)), d)
	}
}

// taken: how many bytes of memory the call takes.
func taken(call func()) uint64 {
	var before, after runtime.MemStats
	runtime.ReadMemStats(&before)
	call()
	runtime.ReadMemStats(&after)
	return after.TotalAlloc - before.TotalAlloc
}

// TestCountsThatPromiseMore: each count of four bytes made greater. ErrShort, and no memory is taken for what isn't there.
func TestCountsThatPromiseMore(t *testing.T) {
	const zero4, one = "00 00 00 00", "00 00 00 01"
	ok := "00 02 6f 6b 00 00 00"
	for _, count := range []string{"00 00 00 02", "00 00 01 01", "7f ff ff ff", "80 00 00 00", "ff ff ff ff"} {
		wantLittle := func(name string, call func()) {
			if n := taken(call); n > 1<<20 {
				t.Errorf("P6.2: %s with the count %s takes %d bytes", name, count, n)
			}
		}
		for _, text := range []string{count, count + ok} {
			wantLittle("ReadSet", func() { sets().wantRefused(t, "P6.2", unhex(text), api.ErrShort) })
		}
		for _, text := range []string{
			count, count + ok,
			zero4 + count, zero4 + count + zero8 + zero4 + zero4,
			zero4 + one + zero8 + count, zero4 + one + zero8 + count + "02 00", zero4 + one + zero8 + count + "01" + zero8,
			zero4 + one + zero8 + zero4 + count, zero4 + one + zero8 + zero4 + count + zero8,
		} {
			wantLittle("ReadProof", func() { proofs().wantRefused(t, "P6.2", unhex(text), api.ErrShort) })
		}
	}
	sets().wantRefused(t, "P6.2", unhex("ff ff ff ff"+ok+"04"), api.ErrCode)
	sets().wantRefused(t, "P6.2", unhex("ff ff ff ff"+ok+ok), api.ErrRising)
	proofs().wantRefused(t, "P6.2", unhex(zero4+one+zero8+"ff ff ff ff 03"), api.ErrCode)
	proofs().wantRefused(t, "P6.2", unhex(zero4+one+zero8+zero4+"ff ff ff ff"+minus8), api.ErrCode)
}

// wantReadAsPlain: as the plain reader reads it; and what is read is written so again.
func wantReadAsPlain[T any](t *testing.T, f face[T], b []byte) {
	t.Helper()
	want, err := plainly(f, b)
	if err != api.OK {
		f.wantRefused(t, "P6.2", b, err)
		return
	}
	f.wantRead(t, "P6.2", b, want)
	f.wantWritten(t, "P6.4", want, b)
}

// TestEveryFewBytes: all strings of few of these bytes.
func TestEveryFewBytes(t *testing.T) {
	over := []byte{0, 1, 2, 3, 4, 'p', 0x80}
	var all func(b []byte, most int)
	all = func(b []byte, most int) {
		wantReadAsPlain(t, atoms(), b)
		wantReadAsPlain(t, clauses(), b)
		one := slices.Concat([]byte{0, 0, 0, 1}, b)
		wantReadAsPlain(t, sets(), one)
		wantReadAsPlain(t, proofs(), one)
		wantReadAsPlain(t, proofs(), slices.Concat([]byte{0, 0, 0, 0}, one, unhex(zero8)))
		if len(b) < most {
			for _, x := range over {
				all(append(slices.Clip(b), x), most)
			}
		}
	}
	all(nil, 5)
}

// spoiltByChance: bytes changed, taken out, put in, moved and cut.
func (r *chosen) spoiltByChance(b []byte) []byte {
	b = slices.Clone(b)
	for range 1 + r.Intn(3) {
		at := r.Intn(len(b) + 1)
		end := min(len(b), at+1+r.Intn(9))
		switch r.Intn(6) {
		case 0:
			b = slices.Delete(b, at, end)
		case 1:
			b = slices.Insert(b, at, b[at:end]...)
		case 2:
			b = slices.Insert(b, at, anyOf(r, []byte{0, 1, 2, 3, 4, 8, 9, 'p', 0x7f, 0x80, 0xff}))
		case 3:
			b = b[:at]
		default:
			if at < len(b) {
				b[at] = anyOf(r, []byte{0, 1, 2, 3, 4, 5, 8, 9, 32, 33, 64, 65, 'p', 'X', 0x7f, 0x80, 0xff})
			}
		}
	}
	return b
}

func wantSpoiltAsPlain[T any](t *testing.T, f face[T], things []T, times int) {
	t.Helper()
	r := newChosen(66)
	for _, x := range things {
		b := joined(f.parts(x))
		if len(b) > 3000 {
			continue
		}
		for range times {
			wantReadAsPlain(t, f, r.spoiltByChance(b))
		}
	}
}

func TestSpoiltBytes(t *testing.T) {
	wantSpoiltAsPlain(t, atoms(), validAtoms(), 200)
	wantSpoiltAsPlain(t, clauses(), validClauses(), 100)
	wantSpoiltAsPlain(t, sets(), validSets(), 200)
	wantSpoiltAsPlain(t, proofs(), writableProofs(), 200)
}
