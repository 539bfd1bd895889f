package script_test

import (
	"math"
	"reflect"
	"slices"
	"strings"
	"testing"

	"hearsay/api"
	"hearsay/script"
)

// P25.2, and with each line that is printed P25.3.

// TestPrintByHand: each kind, its line written by hand.
func TestPrintByHand(t *testing.T) {
	for _, x := range []struct {
		d    api.Do
		line string
	}{
		{api.Do{Kind: api.DoEnroll, Who: "ann"}, `enroll ann`},
		{api.Do{Kind: api.DoAssert, Who: "ann", Text: "p(\"a\")."}, `assert ann "p(\"a\")."`},
		{api.Do{Kind: api.DoRetract, Who: "x y", Text: ""}, `retract "x y" ""`},
		{api.Do{Kind: api.DoExport, Who: "ann", Text: "p.", N: math.MaxInt}, `export ann "p." 9223372036854775807`},
		{api.Do{Kind: api.DoImport, Who: "ann"}, `import ann 0`},
		{api.Do{Kind: api.DoForget, Who: "", Text: "00ff"}, `forget "" "00ff"`},
		{api.Do{Kind: api.DoQuery, Who: "says", Text: "p\n?", N: math.MinInt}, `query "says" "p\n?" -9223372036854775808`},
		{api.Do{Kind: api.DoAsk, Who: "sAYS", Text: "\\"}, `ask sAYS "\\"`},
		{api.Do{Kind: api.DoWatch, Who: "Ann", Text: "p?"}, `watch "Ann" "p?"`},
		{api.Do{Kind: api.DoNews, Who: "a_9", N: -1}, `news a_9 -1`},
		{api.Do{Kind: api.DoWhy, Who: "_a", Text: "\tx\r"}, `why "_a" "\tx\x0d"`},
		{api.Do{Kind: api.DoLoss, Who: "enroll", To: "bob"}, `loss enroll bob`},
		{api.Do{Kind: api.DoLoss}, `loss "" ""`},
		{api.Do{Kind: api.DoProve, Who: "ann", Text: "p?", N: 10}, `prove ann "p?" 10`},
		{api.Do{Kind: api.DoShow, Who: "9", N: 1}, `show "9" 1`},
		{api.Do{Kind: api.DoClauses, Who: "é"}, `clauses "\xc3\xa9"`},
		{api.Do{Kind: api.DoDrop, N: 7}, `drop 7`},
		{api.Do{Kind: api.DoCopy, N: -7}, `copy -7`},
		{api.Do{Kind: api.DoSwap, N: 1, M: 2}, `swap 1 2`},
		{api.Do{Kind: api.DoFlip, N: 1, M: 2, K: 3}, `flip 1 2 3`},
		{api.Do{Kind: api.DoFlip}, `flip 0 0 0`},
		{api.Do{Kind: api.DoCut, N: 0, M: -2}, `cut 0 -2`},
		{api.Do{Kind: api.DoForge, Bytes: []byte{1, ' ', '~', 0x7f, 0x80}}, `forge "\x01 ~\x7f\x80"`},
		{api.Do{Kind: api.DoForge}, `forge ""`},
		{api.Do{Kind: api.DoWaiting}, `waiting`},
		{api.Do{Kind: api.DoCrash, Who: "ann", M: 256}, `crash ann 256`},
		{api.Do{Kind: api.DoRedundant, Who: "a%b"}, `redundant "a%b"`},
	} {
		wantBoth(t, x.d, x.line)
	}
}

// with: the step with this value there.
func with(d api.Do, part string, value any) api.Do {
	plainField(&d, part).Set(reflect.ValueOf(value))
	return d
}

// stepOf: a step of the row's kind in which every part has its second value (the first is zero).
func stepOf(r plainRow) api.Do {
	d := api.Do{Kind: r.kind}
	for _, part := range r.parts {
		d = with(d, part, values(part)[1])
	}
	return d
}

// stepsOf: steps of the row's kind, with all values of each two parts.
func stepsOf(r plainRow) []api.Do {
	l := []api.Do{{Kind: r.kind}, stepOf(r)}
	for i, part := range r.parts {
		for _, x := range values(part) {
			l = append(l, with(stepOf(r), part, x), with(api.Do{Kind: r.kind}, part, x))
			for _, other := range r.parts[:i] {
				for _, y := range values(other) {
					l = append(l, with(with(stepOf(r), part, x), other, y))
				}
			}
		}
	}
	return l
}

func TestPrintOfEveryValue(t *testing.T) {
	for _, r := range plainRows() {
		for _, d := range stepsOf(r) {
			line, ok := plainPrint(d)
			if !ok {
				t.Fatalf("%s should have a line", shown(d))
			}
			wantBoth(t, d, line)
		}
	}
}

// TestPrintOfEveryByte: in names, texts and bytes, alone and among others.
func TestPrintOfEveryByte(t *testing.T) {
	for b := range 256 {
		for _, s := range texts(string([]byte{byte(b)}), string([]byte{'a', byte(b)}), string([]byte{'a', byte(b), 'a'}), string([]byte{byte(b), byte(b)}), string([]byte{'\\', byte(b), '4', '1'})) {
			for _, d := range []api.Do{{Kind: api.DoEnroll, Who: s}, {Kind: api.DoLoss, Who: "a", To: s}, {Kind: api.DoAssert, Who: s, Text: s}, {Kind: api.DoForge, Bytes: []byte(s)}} {
				line, _ := plainPrint(d)
				wantBoth(t, d, line)
			}
		}
	}
}

// TestFieldWithoutPart: one field that isn't zero is enough, whatever the others are.
func TestFieldWithoutPart(t *testing.T) {
	for _, r := range plainRows() {
		for _, part := range allParts() {
			if slices.Contains(r.parts, part) {
				continue
			}
			for i, x := range values(part) {
				for _, d := range []api.Do{{Kind: r.kind}, stepOf(r)} {
					if i == 0 {
						line, _ := plainPrint(d)
						wantBoth(t, with(d, part, x), line)
						continue
					}
					wantNoLine(t, with(d, part, x))
					for _, other := range allParts() {
						wantPrintAsPlain(t, with(with(d, part, x), other, values(other)[2]))
					}
				}
			}
		}
	}
}

// TestEmptyBytesAreZero: those that are none, those with spare room; where there is a part for them and where there is none.
func TestEmptyBytesAreZero(t *testing.T) {
	for _, r := range plainRows() {
		line, _ := plainPrint(stepOf(r))
		for _, b := range [][]byte{nil, {}, []byte("spare")[:0], make([]byte, 0, 100)} {
			d := stepOf(r)
			d.Bytes = b
			if r.name == "forge" {
				line = `forge ""`
			}
			wantBoth(t, d, line)
		}
	}
	wantNoLine(t, api.Do{Kind: api.DoWaiting, Bytes: []byte{0}})
	wantNoLine(t, api.Do{Kind: api.DoWaiting, Bytes: make([]byte, 1000)})
}

// TestKindsInNoRow: with no fields, and with those of every row.
func TestKindsInNoRow(t *testing.T) {
	for _, kind := range ints(0, -1, -2, -24, -25, 25, 26, 27, 48, 100, 255, 256, 257, 1<<16+1, 1<<32, 1<<32+1, 1<<32+24, math.MaxInt32, math.MinInt32, math.MaxInt, math.MaxInt-1, math.MinInt, math.MinInt+1) {
		wantNoLine(t, api.Do{Kind: kind})
		for _, r := range plainRows() {
			d := stepOf(r)
			d.Kind = kind
			wantNoLine(t, d)
		}
	}
}

// TestOneBlankEach: a line has no blank beside those between its parts.
func TestOneBlankEach(t *testing.T) {
	for _, r := range plainRows() {
		d := api.Do{Kind: r.kind}
		line, _ := script.Print(d)
		if n := strings.Count(line, " "); n != len(r.parts) || strings.TrimSpace(line) != line || !strings.HasPrefix(line, r.name) {
			t.Errorf("P25.2: Print(%s) is %q", shown(d), line)
		}
	}
}

// long: the value that the part would have with so many bytes that need an escape of four, and others.
func long(part string, escaped, others int) any {
	s := strings.Repeat("\x80", escaped) + strings.Repeat("a", others)
	if part == "Bytes" {
		return []byte(s)
	}
	return s
}

// TestLongestLines: MaxLine bytes, and one more, whichever part makes the line long.
func TestLongestLines(t *testing.T) {
	for _, r := range plainRows() {
		for _, part := range r.parts {
			if slices.Contains(texts("N", "M", "K"), part) {
				continue
			}
			short, _ := plainPrint(with(stepOf(r), part, long(part, 1, 0)))
			room := mostBytes - len(short)
			for _, escaped := range ints(0, 1, room/4/2, room/4-1, room/4) {
				others := room - 4*escaped
				for more := -1; more <= 2; more++ {
					if others+more < 0 {
						continue
					}
					d := with(stepOf(r), part, long(part, 1+escaped, others+more))
					wantPrintAsPlain(t, d)
					wantBackFromPrint(t, d)
					if line, ok := script.Print(d); ok != (more <= 0) || ok && len(line) != mostBytes+more {
						t.Errorf("P25.2: a line of %d bytes: %v", mostBytes+more, ok)
					}
				}
			}
		}
	}
}

// TestLongestBareNames: without quotes.
func TestLongestBareNames(t *testing.T) {
	for n := mostBytes - 8; n <= mostBytes; n++ {
		name := strings.Repeat("a", n)
		d := api.Do{Kind: api.DoEnroll, Who: name}
		if n <= mostBytes-7 {
			wantBoth(t, d, "enroll "+name)
		} else {
			wantNoLine(t, d)
		}
		wantPrintAsPlain(t, api.Do{Kind: api.DoLoss, Who: name[:n/2], To: name[n/2+5:]})
		wantPrintAsPlain(t, api.Do{Kind: api.DoLoss, Who: name[:n/2], To: name[n/2+6:]})
	}
}

// TestFarTooLong: no line, and the error isn't one of a field.
func TestFarTooLong(t *testing.T) {
	much := strings.Repeat("a", 1<<22)
	wantNoLine(t, api.Do{Kind: api.DoEnroll, Who: much})
	wantNoLine(t, api.Do{Kind: api.DoLoss, Who: "a", To: much})
	wantNoLine(t, api.Do{Kind: api.DoAssert, Who: "a", Text: much})
	wantNoLine(t, api.Do{Kind: api.DoForge, Bytes: []byte(much)})
	wantNoLine(t, api.Do{Kind: api.DoAssert, Who: much, Text: much})
	wantNoLine(t, api.Do{Kind: 25, Who: much, Text: much})
}
