package script_test

import (
	"strings"
	"testing"

	"hearsay/api"
)

// P25.1: blanks and remarks between the tokens count for nothing, but for the places.

func gaps() []string {
	return texts(" ", "  ", "\t", "\r", "\n", "\r\n", " \t\r\n ", "% so\n", "%\n", " % \"\n\t", "%(%\n", "% 007 !\n % and\n", "\n\n\n", blanks(500))
}

// laid: the pieces with these gaps ahead of, between and behind them, and their places.
func laid(l []piece, gap func(i int) string) (string, []api.Token) {
	text := ""
	var out []api.Token
	for i, p := range l {
		text += gap(i)
		t := p.token
		t.At, t.End = len(text), len(text)+len(p.text)
		text += p.text
		out = append(out, t)
	}
	return text + gap(len(l)), out
}

// wantLaid: the first piece is the row's name.
func wantLaid(t *testing.T, r plainRow, text string, toks []api.Token) {
	t.Helper()
	if d, f := plainParts(r, toks[1:], len(text)); f.Err == api.OK {
		wantRead(t, text, d)
	} else {
		wantFault(t, text, f.Err, f.At)
	}
}

// TestGaps: one of each at each place, and at all places at one time; in lines that are right, that lack a part, and that have one too many.
func TestGaps(t *testing.T) {
	for _, r := range plainRows() {
		whole := append([]piece{word(r.name)}, usual(r)...)
		for _, l := range [][]piece{whole, whole[:max(1, len(whole)-1)], append(whole, variable("X"), number("7", 7))} {
			for _, g := range gaps() {
				for place := range len(l) + 1 {
					text, toks := laid(l, func(i int) string {
						if i == place {
							return g
						}
						return " "
					})
					wantLaid(t, r, text, toks)
				}
				text, toks := laid(l, func(int) string { return g })
				wantLaid(t, r, text, toks)
				wantLaid(t, r, text+"% to the end", toks)
			}
		}
	}
}

// TestNoGaps: where the tokens are told from one another without a blank.
func TestNoGaps(t *testing.T) {
	wantRead(t, `enroll"bob"`, api.Do{Kind: api.DoEnroll, Who: "bob"})
	wantRead(t, `assert bob"p."`, api.Do{Kind: api.DoAssert, Who: "bob", Text: "p."})
	wantRead(t, `export"bob""p."7`, api.Do{Kind: api.DoExport, Who: "bob", Text: "p.", N: 7})
	wantRead(t, `query bob"p?"-7`, api.Do{Kind: api.DoQuery, Who: "bob", Text: "p?", N: -7})
	wantRead(t, `news bob-7`, api.Do{Kind: api.DoNews, Who: "bob", N: -7})
	wantRead(t, `loss"says"bob`, api.Do{Kind: api.DoLoss, Who: "says", To: "bob"})
	wantRead(t, `drop-1`, api.Do{Kind: api.DoDrop, N: -1})
	wantRead(t, `flip 1-2-3`, api.Do{Kind: api.DoFlip, N: 1, M: -2, K: -3})
	wantRead(t, `forge"%"% so`, api.Do{Kind: api.DoForge, Bytes: []byte("%")})
	wantRead(t, `waiting%`, api.Do{Kind: api.DoWaiting})
	wantFault(t, `drop1`, api.ErrWord, 0)
	wantFault(t, `waiting.`, api.ErrParts, 7)
	wantFault(t, `enroll"bob"bob`, api.ErrParts, 11)
	wantFault(t, `crash bob1`, api.ErrParts, 10)
	wantFault(t, `drop--1`, api.ErrNumber, 4)
}

// TestManyBlanksAndRemarks: as many as a line may have.
func TestManyBlanksAndRemarks(t *testing.T) {
	remarks := strings.Repeat("%x\n", 10000)
	wantRead(t, remarks+"swap\n"+remarks+"1"+"\t-2"+strings.Repeat("\r\n", 2000), api.Do{Kind: api.DoSwap, N: 1, M: -2})
	wantFault(t, remarks+"swap\n"+remarks+"1", api.ErrParts, 60006)
	wantFault(t, remarks+"swap\n"+remarks+"x 1", api.ErrParts, 60005)
	wantFault(t, remarks+"Swap\n"+remarks, api.ErrWord, 30000)
	wantFault(t, remarks+remarks, api.ErrWord, 60000)
}
