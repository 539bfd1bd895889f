package script_test

import (
	"strings"
	"testing"

	"hearsay/api"
	"hearsay/script"
	"hearsay/tokens"
)

// P25.5.

func TestBlank(t *testing.T) {
	for _, line := range texts("", " ", "\t", "\n", "\r", " \t\r\n", "%", "%%", "% x", "  %", "\t% enroll ann", "%\n", "% a\n % b", "%\n\n\r%", "% \"", "% 007 ! \x00", "%\r", "%\xff", "%\r\n ", "\n\n") {
		wantBlank(t, line, true)
	}
	for _, line := range texts("a", "enroll ann", "waiting", "X", "7", "-7", "\"\"", "\"%\"", "says", "(", ")", ",", ";", ".", ":-", "?", "=", "!=", "<", "<=", " a", "a ", "a % b", "% a\nb", "% a\n% b\nc", "\n\n.", "%\r\n?", "\r7%") {
		wantBlank(t, line, false)
	}
}

// TestBlankOfUncut: what can't be cut into tokens isn't blank, nor with tokens or remarks beside it.
func TestBlankOfUncut(t *testing.T) {
	for _, u := range uncuts() {
		for _, line := range texts(u.text, " "+u.text, "% x\n"+u.text, "a "+u.text, u.text+" % x", "\r"+u.text+" a", u.text+"\n") {
			wantBlank(t, line, false)
		}
	}
	for _, line := range texts("\v", "\f", "\x00", "\x0b%", "\u0085", "\u00a0", "\u2028", "#", "//", "\ufeff", "\\n") {
		wantBlank(t, line, false)
	}
}

// TestBlankOfLongLines: the length isn't asked.
func TestBlankOfLongLines(t *testing.T) {
	for _, n := range ints(mostBytes-1, mostBytes, mostBytes+1, mostBytes+2, 1<<20, 1<<22) {
		for _, s := range texts(" ", "\t", "\n", "\r", "%", "% a\n ") {
			line := strings.Repeat(s, n/len(s)+1)
			wantBlank(t, line, true)
			wantBlank(t, line+"\na", false)
			wantBlank(t, line+"\n\"", false)
			wantBlank(t, "a"+line, false)
		}
		wantBlank(t, "%"+strings.Repeat("\x00", n), true)
		wantBlank(t, strings.Repeat("a", n), false)
		wantBlank(t, strings.Repeat("\x00", n), false)
	}
}

// TestBlankOfShortLines: as the chapter's words have it, by hand and by tokens.
func TestBlankOfShortLines(t *testing.T) {
	for _, s := range shortTexts(" \t\r\n%a\"\x00-.", 5) {
		l, f := tokens.Cut(s, len(s))
		if want := plainBlank(s); script.Blank(s) != want || (len(l) == 0 && f == api.Fault{}) != want {
			t.Fatalf("P25.5: Blank(%q) is %v", s, script.Blank(s))
		}
	}
}

// TestBlankLinesSayNothing: a blank line is no step: its fault is that no token is there.
func TestBlankLinesSayNothing(t *testing.T) {
	for _, s := range shortTexts(" \r\n%a(-", 5) {
		none := fault(api.ErrWord, len(s))
		if _, f := script.Read(s); (f == none) != script.Blank(s) {
			t.Fatalf("P25.5: Read(%q) has the fault %v, Blank is %v", s, f, script.Blank(s))
		}
	}
}

// TestStepsAreNotBlank: no line that is printed, or read.
func TestStepsAreNotBlank(t *testing.T) {
	for _, r := range plainRows() {
		line, _ := script.Print(stepOf(r))
		wantBlank(t, line, false)
		wantBlank(t, "  "+line+" % so", false)
		wantBlank(t, "% "+line, true)
	}
}
