package script_test

import (
	"fmt"
	"math"
	"slices"
	"strings"
	"testing"

	"hearsay/api"
	"hearsay/script"
)

func texts(l ...string) []string { return l }

func ints(l ...int) []int { return l }

func fault(err api.Errno, at int) api.Fault { return api.Fault{Err: err, At: at} }

// same: no bytes, in whatever list, are no bytes.
func same(a, b api.Do) bool {
	return a.Kind == b.Kind && a.Who == b.Who && a.To == b.To && a.Text == b.Text && string(a.Bytes) == string(b.Bytes) && a.N == b.N && a.M == b.M && a.K == b.K
}

// allBytes: each byte once.
func allBytes() string {
	var b []byte
	for i := range 256 {
		b = append(b, byte(i))
	}
	return string(b)
}

// shown: a step, its texts cut short where they are long.
func shown(d api.Do) string {
	return fmt.Sprintf("{%d Who %.60q To %.60q Text %.60q Bytes %.60q N %d M %d K %d}", d.Kind, d.Who, d.To, d.Text, d.Bytes, d.N, d.M, d.K)
}

func blanks(n int) string { return strings.Repeat(" ", n) }

func wantRead(t *testing.T, line string, want api.Do) {
	t.Helper()
	if d, f := script.Read(line); !same(d, want) || f != (api.Fault{}) {
		t.Errorf("P25.1: Read(%.100q) is %s, %v; want %s", line, shown(d), f, shown(want))
	}
}

func wantFault(t *testing.T, line string, err api.Errno, at int) {
	t.Helper()
	if d, f := script.Read(line); !same(d, api.Do{}) || f != fault(err, at) {
		t.Errorf("P25.1: Read(%.100q), of %d bytes, is %s, %v; want %d at %d", line, len(line), shown(d), f, err, at)
	}
}

func wantPrint(t *testing.T, d api.Do, want string) {
	t.Helper()
	if s, ok := script.Print(d); s != want || !ok {
		t.Errorf("P25.2: Print(%s) is %.100q, %v; want %.100q", shown(d), s, ok, want)
	}
}

func wantNoLine(t *testing.T, d api.Do) {
	t.Helper()
	if s, ok := script.Print(d); s != "" || ok {
		t.Errorf("P25.2: Print(%s) is %.100q, %v; want none", shown(d), s, ok)
	}
}

// wantBoth: the line that Print gives, and that is read back.
func wantBoth(t *testing.T, d api.Do, line string) {
	t.Helper()
	wantPrint(t, d, line)
	wantRead(t, line, d)
}

func wantLines(t *testing.T, text string, want ...string) {
	t.Helper()
	if l := script.Lines(text); !slices.Equal(l, want) {
		t.Errorf("P25.4: Lines(%.100q) is %.200q, want %.200q", text, l, want)
	}
}

func wantBlank(t *testing.T, line string, want bool) {
	t.Helper()
	if script.Blank(line) != want {
		t.Errorf("P25.5: Blank(%.100q) is %v", line, !want)
	}
}

// wantReadAsPlain: as the chapter's words read it.
func wantReadAsPlain(t *testing.T, line string) {
	t.Helper()
	if d, f := plainRead(line); f.Err == api.OK {
		wantRead(t, line, d)
	} else {
		wantFault(t, line, f.Err, f.At)
	}
}

func wantPrintAsPlain(t *testing.T, d api.Do) {
	t.Helper()
	if line, ok := plainPrint(d); ok {
		wantPrint(t, d, line)
	} else {
		wantNoLine(t, d)
	}
}

// wantBackFromPrint: P25.3, of a step.
func wantBackFromPrint(t *testing.T, d api.Do) {
	t.Helper()
	line, ok := script.Print(d)
	if !ok {
		return
	}
	if back, f := script.Read(line); !same(back, d) || f != (api.Fault{}) {
		t.Errorf("P25.3: Print(%s) is %.100q, and that is read as %s, %v", shown(d), line, shown(back), f)
	}
}

// wantBackFromRead: P25.3, of a line. False, if the step that it says has no line.
func wantBackFromRead(t *testing.T, line string) bool {
	t.Helper()
	d, f := script.Read(line)
	if f.Err != api.OK {
		return true
	}
	printed, ok := script.Print(d)
	if !ok {
		return false
	}
	if back, f := script.Read(printed); !same(back, d) || f != (api.Fault{}) {
		t.Errorf("P25.3: %.100q is read as %s, whose line %.100q is read as %s, %v", line, shown(d), printed, shown(back), f)
	}
	return true
}

// Values of every sort, none of which is zero.

func someNames() []string {
	return texts("a", "ann", "aliceZ_09", "z", "say", "saysx", "enroll", "waiting", "says", "Says", "Bob", "_", "_x", "9", "7up", "-1", "a-b", "x y", " ", " a", "a ", "a\n", "\n", "%", "a%b", "\"", "\\", "é", "\x00", "\x7f", "\x80\xff", "a.", "(", ":-", "<=", strings.Repeat("a", 65), strings.Repeat("b", 3000), allBytes())
}

func someTexts() []string {
	return texts("p.", "may(X) :- alice says good(X), X != dan.", "p(\"a\\\"b\")?", "a", "says", "%", "% x\ny", "\"", "\"\"", "\\", "\\\\", "\\n", "\\x41", "\n", "\r\n", "\t", "\x00", "\x1f ~\x7f", "é", "\xff", " ", "  x  ", "007", strings.Repeat("0f", 32), strings.Repeat("\xee", 2000), allBytes())
}

func someNumbers() []int {
	return ints(1, -1, 7, 10, -10, 255, 256, 65536, math.MaxInt32, math.MinInt32, math.MaxInt, math.MaxInt-1, math.MinInt, math.MinInt+1)
}

// values: what the part may be, zero first.
func values(part string) []any {
	out := []any{}
	switch part {
	case "Who", "To":
		out = append(out, "")
		for _, s := range someNames() {
			out = append(out, s)
		}
	case "Text":
		out = append(out, "")
		for _, s := range someTexts() {
			out = append(out, s)
		}
	case "Bytes":
		out = append(out, []byte(nil))
		for _, s := range someTexts() {
			out = append(out, []byte(s))
		}
	default:
		out = append(out, 0)
		for _, n := range someNumbers() {
			out = append(out, n)
		}
	}
	return out
}
