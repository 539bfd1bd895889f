package script_test

import (
	"slices"
	"strings"
	"testing"

	"hearsay/api"
)

// TestNoName: no token at all: the place is the line's length.
func TestNoName(t *testing.T) {
	for _, line := range texts("", " ", "\t", "\r", "\n", "%", "% enroll bob", "  % x", "%%%", " \r\n\t% \"\n", "%\n%\n", blanks(1000), strings.Repeat("% drop 1\n", 1000)) {
		wantFault(t, line, api.ErrWord, len(line))
	}
}

// TestNameOfAnotherKind: each row's parts behind a token that is no word.
func TestNameOfAnotherKind(t *testing.T) {
	for _, r := range plainRows() {
		others := append(pieces(), quoted(r.name, r.name), variable(strings.ToUpper(r.name)), variable("_"+r.name))
		for _, p := range others {
			if p.token.Kind == api.TokWord {
				continue
			}
			text, _ := line(p.text, usual(r))
			wantFault(t, text, api.ErrWord, 0)
			wantFault(t, "% so\n\t "+text, api.ErrWord, 7)
			behind, _ := line(p.text+" "+r.name, usual(r))
			wantFault(t, " "+behind, api.ErrWord, 1)
		}
	}
}

// notNames: words that are in no row.
func notNames() []string {
	l := texts("x", "frob", "do", "doenroll", "list", "help", "none", "who", "text", "enrol", "imports", "asks", "prover", "tell", "wait", "flop", "clause", "assert_", "swap1", strings.Repeat("a", 32), strings.Repeat("a", 60000))
	var names []string
	for _, r := range plainRows() {
		names = append(names, r.name)
		second := strings.ToUpper(r.name[1:2])
		l = append(l, r.name+"s", r.name+"_", r.name+"1", r.name+r.name, "x"+r.name, r.name[:len(r.name)-1]+"X", r.name[:1]+second+r.name[2:], r.name[1:])
		for n := 1; n < len(r.name); n++ {
			l = append(l, r.name[:n])
		}
	}
	return slices.DeleteFunc(l, func(s string) bool { return slices.Contains(names, s) }) // the beginning of forget is forge
}

// TestNameInNoRow: with parts that another row has.
func TestNameInNoRow(t *testing.T) {
	for _, name := range notNames() {
		wantFault(t, name, api.ErrWord, 0)
		wantFault(t, "  "+name+" % x", api.ErrWord, 2)
		for _, r := range plainRows() {
			text, _ := line(name, usual(r))
			wantFault(t, text, api.ErrWord, 0)
		}
	}
}

// TestWordAheadOfParts: of a line with no name the parts are not looked at.
func TestWordAheadOfParts(t *testing.T) {
	for _, p := range pieces() {
		wantFault(t, "frob "+p.text, api.ErrWord, 0)
		wantFault(t, " Enroll "+p.text+" "+p.text, api.ErrWord, 1)
		wantFault(t, "% so\n\"enroll\" "+p.text+" "+p.text+" "+p.text, api.ErrWord, 5)
	}
}
