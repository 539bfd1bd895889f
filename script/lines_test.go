package script_test

import (
	"slices"
	"strings"
	"testing"

	"hearsay/script"
)

// P25.4.

func TestLines(t *testing.T) {
	wantLines(t, "a", "a")
	wantLines(t, "enroll ann % so", "enroll ann % so")
	wantLines(t, "a\n", "a")
	wantLines(t, "\na", "", "a")
	wantLines(t, "a\nb", "a", "b")
	wantLines(t, "a\nb\n", "a", "b")
	wantLines(t, "a\n\nb", "a", "", "b")
	wantLines(t, "\n\n", "", "")
	wantLines(t, "\n\n\n", "", "", "")
	wantLines(t, "\n\na\n\n\nb\n\n", "", "", "a", "", "", "b", "")
	wantLines(t, " ", " ")
	wantLines(t, " \n \n ", " ", " ", " ")
	wantLines(t, "\t\n", "\t")
	wantLines(t, "\r", "\r")
	wantLines(t, "\r\n", "\r")
	wantLines(t, "\n\r", "", "\r")
	wantLines(t, "a\rb", "a\rb")
	wantLines(t, "a\r\nb\r\n", "a\r", "b\r")
	wantLines(t, "\r\r\n\r", "\r\r", "\r")
	wantLines(t, "a\vb\fc\x00d\u0085e\u2028f", "a\vb\fc\x00d\u0085e\u2028f")
	wantLines(t, "\xff\n\x80\n\xc3\n\xa9", "\xff", "\x80", "\xc3", "\xa9")
}

// TestLinesKnowNoTokens: a line feed cuts in quotes and in remarks too.
func TestLinesKnowNoTokens(t *testing.T) {
	wantLines(t, "assert a \"p.\nq.\"\n% x\n%\n\"", "assert a \"p.", "q.\"", "% x", "%", "\"")
	wantLines(t, `a\nb`, `a\nb`)
}

// shortTexts: every text of at most most of these bytes.
func shortTexts(bytes string, most int) []string {
	out := texts("")
	for from := 0; most > 0; most-- {
		end := len(out)
		for _, s := range out[from:end] {
			for i := range len(bytes) {
				out = append(out, s+bytes[i:i+1])
			}
		}
		from = end
	}
	return out
}

// TestLinesOfShortTexts: as the chapter's words have them; put together again they are the text; and no line has a line feed.
func TestLinesOfShortTexts(t *testing.T) {
	for _, s := range shortTexts("a\n\r% \x8a", 6) {
		l := script.Lines(s)
		if !slices.Equal(l, plainLines(s)) {
			t.Fatalf("P25.4: Lines(%q) is %q", s, l)
		}
		joined := strings.Join(l, "\n")
		if joined != s && joined+"\n" != s || strings.Contains(strings.Join(l, ""), "\n") {
			t.Fatalf("P25.4: Lines(%q) is %q", s, l)
		}
	}
}

// TestManyLines: neither their number nor their length is asked.
func TestManyLines(t *testing.T) {
	for _, n := range ints(1, 2, 1999, 2000, 2001, 2002, 100000) {
		for _, s := range texts("", "a", "\r", "drop 1 % so") {
			want := slices.Repeat(texts(s), n)
			wantLines(t, strings.Repeat(s+"\n", n), want...)
			if s != "" {
				wantLines(t, strings.Repeat(s+"\n", n-1)+s, want...)
			}
		}
	}
	for _, n := range ints(mostBytes-1, mostBytes, mostBytes+1, 1<<20, 1<<22) {
		a := strings.Repeat("a", n)
		wantLines(t, a, a)
		wantLines(t, a+"\n"+a+"\n\n"+a, a, a, "", a)
	}
}
