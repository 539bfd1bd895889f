package script_test

import (
	"strings"
	"testing"

	"hearsay/api"
)

// A line has at most 65536 bytes. (P25.1)

const mostBytes = 65536

// padded: the line with blanks or a remark ahead or behind, up to so many bytes.
func padded(line string, length int) []string {
	room := length - len(line)
	return texts(
		blanks(room)+line, line+blanks(room), blanks(room/2)+line+blanks(room-room/2), strings.Repeat("\r", room)+line, line+strings.Repeat("\t", room), line+strings.Repeat("\n", room),
		line+" %"+strings.Repeat("x", room-2), line+" %"+strings.Repeat("\xff", room-2), "%"+strings.Repeat("0", room-2)+"\n"+line,
	)
}

func TestLineOfMostBytes(t *testing.T) {
	if api.MaxLine != mostBytes {
		t.Fatalf("MaxLine is %d", api.MaxLine)
	}
	for _, r := range plainRows() {
		text, toks := line(r.name, usual(r))
		d, _ := plainParts(r, toks, len(text))
		for _, l := range padded(text, mostBytes-1) {
			wantRead(t, l, d)
		}
		for _, l := range padded(text, mostBytes) {
			wantRead(t, l, d)
		}
		for _, l := range padded(text, mostBytes+1) {
			wantFault(t, l, api.ErrLine, 0)
		}
	}
}

// TestLongParts: a line that one part makes long.
func TestLongParts(t *testing.T) {
	long := func(front, behind string, length int) (string, string) {
		middle := strings.Repeat("a", length-len(front)-len(behind))
		return front + middle + behind, middle
	}
	for length := mostBytes - 1; length <= mostBytes; length++ {
		text, name := long("enroll ", "", length)
		wantRead(t, text, api.Do{Kind: api.DoEnroll, Who: name})
		text, name = long("import \"", "\" -7", length)
		wantRead(t, text, api.Do{Kind: api.DoImport, Who: name, N: -7})
		text, name = long("loss \"\" ", " ", length)
		wantRead(t, text, api.Do{Kind: api.DoLoss, To: name})
		text, name = long("query bob \"", "\" 9", length)
		wantRead(t, text, api.Do{Kind: api.DoQuery, Who: "bob", Text: name, N: 9})
		text, name = long("forge \"", "\"", length)
		wantRead(t, text, api.Do{Kind: api.DoForge, Bytes: []byte(name)})
	}
	raw := "forge \"" + strings.Repeat("é", (mostBytes-8)/2) + "\""
	wantRead(t, raw, api.Do{Kind: api.DoForge, Bytes: []byte(raw[7 : mostBytes-1])})
	escaped := "forge \"" + strings.Repeat("\\xfF", (mostBytes-8)/4) + "\""
	wantRead(t, escaped, api.Do{Kind: api.DoForge, Bytes: []byte(strings.Repeat("\xff", (mostBytes-8)/4))})
	wantFault(t, raw+" ", api.ErrLine, 0)
	wantFault(t, " "+escaped, api.ErrLine, 0)
}

// TestLongLinesWithFaults: with MaxLine bytes each line's own fault; with one more ErrLine, whatever else is wrong.
func TestLongLinesWithFaults(t *testing.T) {
	for _, x := range []struct {
		front, behind string
		err           api.Errno
		at            int
	}{
		{"", "", api.ErrWord, mostBytes},
		{"% so\n", "", api.ErrWord, mostBytes},
		{"frob", "", api.ErrWord, 0},
		{"", "frob", api.ErrWord, mostBytes - 4},
		{"swap 1", "", api.ErrParts, mostBytes},
		{"swap 1", "x", api.ErrParts, mostBytes - 1},
		{"swap 1 2", "%", api.OK, 0},
		{"swap 1 2", "3 4", api.ErrParts, mostBytes - 3},
		{"waiting", "?", api.ErrParts, mostBytes - 1},
		{"drop", "007", api.ErrNumber, mostBytes - 3},
		{"frob", "!", api.ErrByte, mostBytes - 1},
		{"forge \"", "", api.ErrOpen, 6},
		{"forge \"", "\\", api.ErrEscape, mostBytes - 1},
		{"forge \"", "\t\"", api.ErrEscape, mostBytes - 2},
		{"\x00", "", api.ErrByte, 0},
	} {
		text := x.front + blanks(mostBytes-len(x.front)-len(x.behind)) + x.behind
		if x.err != api.OK {
			wantFault(t, text, x.err, x.at)
		}
		wantReadAsPlain(t, text)
		wantFault(t, x.front+" "+text[len(x.front):], api.ErrLine, 0)
		wantFault(t, text+strings.Repeat(x.behind+" ", 70000), api.ErrLine, 0)
	}
	for _, n := range ints(mostBytes+1, mostBytes+2, 2*mostBytes, 1<<20, 1<<22+1) {
		for _, s := range texts(" ", "a", "\"", "%", "\n", "\xff", "0") {
			wantFault(t, strings.Repeat(s, n), api.ErrLine, 0)
		}
	}
}
