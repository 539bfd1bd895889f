package script_test

import (
	"strings"
	"testing"

	"hearsay/api"
	"hearsay/script"
)

// P25.3.

// TestBackFromSteps: every step that has a line is read back from it, and its line is the one that is printed again.
func TestBackFromSteps(t *testing.T) {
	for _, r := range plainRows() {
		for _, d := range stepsOf(r) {
			wantBackFromPrint(t, d)
			line, ok := script.Print(d)
			if !ok {
				t.Fatalf("P25.3: %s has no line", shown(d))
			}
			back, _ := script.Read(line)
			if again, ok := script.Print(back); again != line || !ok {
				t.Fatalf("P25.3: %.100q is printed as %.100q, %v", line, again, ok)
			}
		}
	}
}

// TestBackFromLines: however a line is written, the step is printed so that it is read back.
func TestBackFromLines(t *testing.T) {
	for _, r := range plainRows() {
		for i, part := range r.parts {
			for _, p := range suiting(part) {
				for _, g := range gaps() {
					l := append([]piece{word(r.name)}, usual(r)...)
					l[i+1] = p
					text, _ := laid(l, func(int) string { return g })
					if !wantBackFromRead(t, text) {
						t.Errorf("P25.3: the step of %q has no line", text)
					}
				}
			}
		}
	}
}

// TestManySpellingsOfOneStep: are read as one, and printed as one.
func TestManySpellingsOfOneStep(t *testing.T) {
	for _, line := range texts(
		`crash bob 9`, `crash "bob" 9`, "\tcrash % so\n bob\r9\n", `crash"\x62ob"9`, `crash "\x62\x6F\x62" 9 % "`, `crash"bob"9%`,
	) {
		wantRead(t, line, api.Do{Kind: api.DoCrash, Who: "bob", M: 9})
		d, _ := script.Read(line)
		wantPrint(t, d, `crash bob 9`)
	}
}

// rawLine: of a row whose first part that may be a text has so many bytes from 128 on, which stand for themselves.
func rawLine(r plainRow, n int) string {
	l := usual(r)
	for i, part := range r.parts {
		if strings.Contains("Who To Text Bytes", part) {
			l[i] = quoted(strings.Repeat("\xe9", n), "")
			break
		}
	}
	text, _ := line(r.name, l)
	return text
}

// TestQuotedTextsGrow: a step that is read, and whose line would be too long; and those whose line just isn't.
func TestQuotedTextsGrow(t *testing.T) {
	for _, r := range plainRows() {
		if len(rawLine(r, 1)) == len(rawLine(r, 0)) {
			continue // no part is a text
		}
		most := (mostBytes - len(rawLine(r, 0))) / 4
		for _, n := range ints(0, 1, 1000, most-1, most, most+1, most+2, 20000, mostBytes-len(rawLine(r, 0))) {
			text := rawLine(r, n)
			d, f := script.Read(text)
			if f.Err != api.OK {
				t.Fatalf("P25.1: %.50q, of %d bytes: %v", text, len(text), f)
			}
			if fits := wantBackFromRead(t, text); fits != (n <= most) {
				t.Errorf("P25.3: %.50q, with %d bytes that grow, has a line: %v", text, n, fits)
			}
			wantPrintAsPlain(t, d)
		}
	}
}

// TestEmptyAndNone: a forged message without bytes.
func TestEmptyAndNone(t *testing.T) {
	for _, b := range [][]byte{nil, {}, []byte("x")[:0]} {
		wantBackFromPrint(t, api.Do{Kind: api.DoForge, Bytes: b})
	}
	d, f := script.Read(`forge ""`)
	if f != (api.Fault{}) || len(d.Bytes) != 0 {
		t.Errorf("P25.1: no bytes are read as %v, %v", d.Bytes, f)
	}
	wantPrint(t, d, `forge ""`)
}
