package run_test

import (
	"fmt"
	"strings"
	"testing"

	"hearsay/api"
	"hearsay/run"
)

// P26.1: the lines of a text, and what is told of each.

func TestEmptyText(t *testing.T) {
	for _, secret := range texts("", "s", allBytes()) {
		if got := run.Run(secret, ""); len(got) != 0 {
			t.Errorf("P26.1: the empty text tells %q", got)
		}
	}
}

func TestBlankLinesAlone(t *testing.T) {
	for _, text := range texts("\n", "\n\n\n", " ", " \n", "\t\n \t \n", "\r\n", "\r", "% so", "% so\n", "%\n%\n", " % enroll ann\n\n%frob", "%\"\n", "% 007 !\x00\n", "%%\r\n", strings.Repeat("\n", 5000), strings.Repeat("% waiting\n", 5000)) {
		wantRun(t, "P26.1", text)
	}
}

// TestLongBlankLines: how long a blank line is isn't asked.
func TestLongBlankLines(t *testing.T) {
	for _, n := range ints(api.MaxLine-1, api.MaxLine, api.MaxLine+1, 4*api.MaxLine) {
		wantRun(t, "P26.1", strings.Repeat(" ", n)+"\nenroll ann\n%"+strings.Repeat("x", n)+"\nenroll ann", "ok", "E181 0")
	}
}

// TestLastLine: it need not end with a line feed.
func TestLastLine(t *testing.T) {
	wantRun(t, "P26.1", "enroll ann", "ok")
	wantRun(t, "P26.1", "enroll ann\nenroll ann", "ok", "E181 0")
	wantRun(t, "P26.1", "enroll ann\nenroll ann\n", "ok", "E181 0")
	wantRun(t, "P26.1", "enroll ann\nenroll ann\n\n % ", "ok", "E181 0")
	wantRun(t, "P26.1", "\n\nenroll", "E253 6")
}

// TestLinesWithCarriageReturns: a byte 13 belongs to its line, and is a blank there; it cuts none.
func TestLinesWithCarriageReturns(t *testing.T) {
	wantRun(t, "P26.1", "enroll ann\r\nassert ann \"p.\"\r\n\r\nclauses ann\r", "ok", "ok 1", "ok", "  p.")
	wantRun(t, "P26.1", "enroll\rann\renroll ann", "E253 11")
	wantRun(t, "P26.1", "enroll\r\n", "E253 7")
	wantRun(t, "P26.1", "enroll ann % \renroll bob\nenroll bob", "ok", "ok")
}

// TestLinesThatCannotBeCut: each fault of cutting, with its place.
func TestLinesThatCannotBeCut(t *testing.T) {
	for _, c := range []struct {
		line string
		told string
	}{
		{"!", "E42 0"}, {"waiting !", "E42 8"}, {"enroll ann :", "E42 11"}, {"\x00", "E42 0"}, {"\v", "E42 0"}, {"é", "E42 0"}, {"enroll a-b", "E45 8"}, {"waiting\x00", "E42 7"},
		{"enroll \"ann", "E43 7"}, {"\"", "E43 0"}, {"assert ann \"p. % q", "E43 11"}, {"enroll \"% ", "E43 7"},
		{"enroll \"a\\q\"", "E44 9"}, {"enroll \"\\", "E44 8"}, {"enroll \"\x01\"", "E44 8"}, {"enroll \"\x7f", "E44 8"}, {"enroll \"\\x4\"", "E44 8"}, {"enroll \"a\r\"", "E44 9"},
		{"drop 007", "E45 5"}, {"drop -", "E45 5"}, {"drop -0", "E45 5"}, {"drop 12ab", "E45 5"}, {"drop 9223372036854775808", "E45 5"}, {"frob x 1_0", "E45 7"},
		{"  drop\t00  % what", "E45 7"},
	} {
		wantRun(t, "P26.1", c.line, c.told)
		wantRun(t, "P26.1", "enroll ann\n"+c.line+"\nenroll ann\n", "ok", c.told, "E181 0")
	}
}

// TestNamesAndPartsThatAreRefused: each with its number and its place.
func TestNamesAndPartsThatAreRefused(t *testing.T) {
	for _, c := range []struct {
		line string
		told string
	}{
		{"frob", "E252 0"}, {"  frob", "E252 2"}, {"Enroll ann", "E252 0"}, {"says", "E252 0"}, {"\"enroll\" ann", "E252 0"}, {"7", "E252 0"}, {" ?", "E252 1"}, {"enrol ann", "E252 0"}, {"enrollann", "E252 0"}, {", enroll ann", "E252 0"},
		{"enroll", "E253 6"}, {"enroll   ", "E253 9"}, {"enroll % ann", "E253 12"}, {"enroll Ann", "E253 7"}, {"enroll says", "E253 7"}, {"enroll 7", "E253 7"}, {"enroll ann bob", "E253 11"}, {"enroll ann.", "E253 10"},
		{"assert ann p", "E253 11"}, {"assert ann", "E253 10"}, {"assert \"p.\" ann", "E253 12"}, {"query ann \"p?\"", "E253 14"}, {"query ann 9 \"p?\"", "E253 10"}, {"query ann \"p?\" nine", "E253 15"},
		{"swap 1", "E253 6"}, {"flip 1 2", "E253 8"}, {"flip 1 2 3 4", "E253 11"}, {"forge x", "E253 6"}, {"forge", "E253 5"}, {"waiting 1", "E253 8"}, {"loss ann 1", "E253 9"}, {"crash ann \"1\"", "E253 10"}, {"crash ann", "E253 9"}, {"forget ann 00", "E45 11"}, {"forget ann", "E253 10"},
	} {
		wantRun(t, "P26.1", c.line, c.told)
		wantRun(t, "P26.1", "enroll bob\n"+c.line+"\nenroll ann\nenroll bob\n", "ok", c.told, "ok", "E181 0")
	}
}

// padded: the line, of just n bytes by what stands behind it.
func padded(line, with string, n int) string {
	return line + " %" + strings.Repeat(with, (n-len(line)-2)/len(with))
}

// TestLinesOfMaxLine: a line of that many bytes is played, of one more it isn't.
func TestLinesOfMaxLine(t *testing.T) {
	for _, with := range texts(" ", "x", "\"", "\x00", "\r", "%") {
		wantRun(t, "P26.1", padded("enroll ann", with, api.MaxLine)+"\nenroll ann", "ok", "E181 0")
		wantRun(t, "P26.1", padded("enroll ann", with, api.MaxLine+1)+"\nenroll ann", "E251 0", "ok")
		wantRun(t, "P26.1", "\r\n"+padded("enroll ann", with, api.MaxLine)+"\n"+padded("enroll ann", with, api.MaxLine), "ok", "E181 0")
	}
	for _, n := range ints(api.MaxLine, api.MaxLine+1, 3*api.MaxLine) {
		blanks := strings.Repeat(" ", n-len("enroll ann"))
		want := texts("ok", "E181 0")
		if n > api.MaxLine {
			want = texts("E251 0", "ok")
		}
		wantRun(t, "P26.1", blanks+"enroll ann\nenroll ann", want...)
		wantRun(t, "P26.1", "enroll"+blanks+" ann\nenroll ann", want...)
	}
	body := strings.Repeat("a", api.MaxLine-len(`forge ""`))
	wantRun(t, "P26.1", `forge "`+body+"\"\n"+`forge "`+body+"a\"\nwaiting\ncut 1 "+fmt.Sprint(len(body)+1)+"\ncut 1 "+fmt.Sprint(len(body)), "ok 1", "E251 0", "ok 1", "E232 0", "ok")
}

// TestTooLongAndUncut: the length is asked ahead of all else.
func TestTooLongAndUncut(t *testing.T) {
	long := strings.Repeat("x", api.MaxLine)
	for _, line := range texts("!"+long, "\""+long, long+"x", "drop 007 "+long, "enroll "+long, "\x00"+long) {
		wantRun(t, "P26.1", line+"\nenroll ann", "E251 0", "ok")
	}
	wantRun(t, "P26.1", long, "E252 0")
	wantRun(t, "P26.1", "\""+long[1:], "E43 0")
	wantRun(t, "P26.1", "!"+long[1:], "E42 0")
}

// TestMaxLines: so many lines that aren't blank are played; what was refused counts, blank lines don't; each further one is told ErrLines, whatever it says.
func TestMaxLines(t *testing.T) {
	further := texts("waiting", "frob", "enroll", "!", "\"", "drop 007", "enroll bob", strings.Repeat("x", api.MaxLine+1), "enroll ann")
	for _, kinds := range [][]string{texts("waiting"), texts("frob"), texts("waiting", "!", "enroll", "forge \"x\"", "ask ann \"p?\"")} {
		for _, between := range texts("", "\n", " % so\n\t\n\r\n", "%\n\n\n\n") {
			text := between
			for i := range api.MaxLines - 1 {
				text += kinds[i%len(kinds)] + "\n" + between
			}
			text += "enroll ann\n" + between
			want := plainRun("s", text)
			last := want[len(want)-1]
			if len(want) != api.MaxLines && len(kinds) == 1 || last != "ok" {
				t.Fatalf("P26.1: %d lines are told, the last %q", len(want), last)
			}
			wantRun(t, "P26.1", text, want...)
			for _, x := range further {
				text += x + "\n" + between
				want = append(want, "E261 0")
			}
			wantRun(t, "P26.1", text, want...)
		}
	}
}

// TestManyLines: of many more each is told, and those that are blank are told nothing there too.
func TestManyLines(t *testing.T) {
	got := run.Run("", strings.Repeat("waiting\n", api.MaxLines)+strings.Repeat("\n%\nfrob\n  \t\n", 30000))
	if len(got) != api.MaxLines+30000 {
		t.Fatalf("P26.1: %d lines are told", len(got))
	}
	for i, s := range got {
		if want := map[bool]string{true: "ok", false: "E261 0"}[i < api.MaxLines]; s != want {
			t.Fatalf("P26.1: the line %d is told %q, want %q", i, s, want)
		}
	}
}

// TestMaxLinesOfOneText: a step that tells many lines is one line of the script.
func TestMaxLinesOfOneText(t *testing.T) {
	text := "enroll ann\nassert ann \"p(1). p(2). p(3).\"\n" + strings.Repeat("ask ann \"p(X)?\"\n", api.MaxLines-2) + "ask ann \"p(X)?\"\n"
	want := texts("ok", "ok 3")
	for range api.MaxLines - 2 {
		want = append(want, "ok", "  p(1)", "  p(2)", "  p(3)")
	}
	wantRun(t, "P26.1", text, append(want, "E261 0")...)
}

// TestSecrets: the ring's keys come out of the secret's bytes: ids are those of a world of that secret, and differ between two secrets; nothing else does.
func TestSecrets(t *testing.T) {
	text := exampleText(exampleThree) + exampleText(exampleSix)
	plain := withoutIds(run.Run("s", text))
	seen := map[string]string{}
	for _, secret := range texts("", "s", "t", "S", "\x00s", "\n", "secret", "é", "\xff\xfe", allBytes(), strings.Repeat("s", 64), strings.Repeat("s", 65), strings.Repeat("long", 1000)) {
		got := run.Run(secret, text)
		wantLines(t, "P26.1", text, got, plainRun(secret, text))
		wantLines(t, "P26.1", text, withoutIds(got), plain)
		if other, there := seen[got[5]]; there {
			t.Errorf("P26.1: the secrets %q and %q give the same id", other, secret)
		}
		seen[got[5]] = secret
	}
}
