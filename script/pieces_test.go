package script_test

import (
	"math"
	"slices"
	"strings"
	"testing"

	"hearsay/api"
)

// piece: of a line: a token, as it is written.
type piece struct {
	text  string
	token api.Token
}

func word(s string) piece { return piece{s, api.Token{Kind: api.TokWord, Text: s}} }

func variable(s string) piece { return piece{s, api.Token{Kind: api.TokVar, Text: s}} }

func quoted(written, means string) piece {
	return piece{`"` + written + `"`, api.Token{Kind: api.TokText, Text: means}}
}

func number(written string, n int) piece {
	return piece{written, api.Token{Kind: api.TokNum, N: n}}
}

// pieces: some of each kind of token.
func pieces() []piece {
	l := []piece{
		word("x"), word("enroll"), word("saysx"), word("bob_9Z"), variable("X"), variable("_"), variable("Bob"), variable("Says"), quoted("x", "x"), quoted("", ""), quoted("says", "says"), quoted("p(X) :- q. % no", "p(X) :- q. % no"), quoted(`\x41\"\\\n\t\xFf`, "A\"\\\n\t\xff"), quoted("7", "7"),
		number("0", 0), number("7", 7), number("-7", -7), number("10", 10), number("9223372036854775807", math.MaxInt), number("-9223372036854775808", math.MinInt),
	}
	for i, sign := range texts("says", "(", ")", ",", ";", ".", ":-", "?", "=", "!=", "<", "<=") {
		l = append(l, piece{sign, api.Token{Kind: api.TokSays + i}})
	}
	return l
}

// suiting: the pieces that may stand for the part.
func suiting(part string) []piece {
	return slices.DeleteFunc(pieces(), func(p piece) bool { return !plainSuits(part, p.token.Kind) })
}

// usual: one piece for each part of the row.
func usual(r plainRow) []piece {
	var l []piece
	for _, part := range r.parts {
		l = append(l, suiting(part)[0])
	}
	return l
}

// line: the name and the pieces, one blank ahead of each, and the tokens with their places.
func line(name string, l []piece) (string, []api.Token) {
	text := name
	var out []api.Token
	for _, p := range l {
		t := p.token
		t.At, t.End = len(text)+1, len(text)+1+len(p.text)
		text += " " + p.text
		out = append(out, t)
	}
	return text, out
}

// wantLine: the line of the row's name and these pieces is read by the chapter's words.
func wantLine(t *testing.T, r plainRow, l []piece) {
	t.Helper()
	text, toks := line(r.name, l)
	if d, f := plainParts(r, toks, len(text)); f.Err == api.OK {
		wantRead(t, text, d)
	} else {
		wantFault(t, text, f.Err, f.At)
	}
}

// TestEveryLine: every name, with all that suits its parts.
func TestEveryLine(t *testing.T) {
	for _, r := range plainRows() {
		all := [][]piece{nil}
		for _, part := range r.parts {
			var longer [][]piece
			for _, l := range all {
				for _, p := range suiting(part) {
					longer = append(longer, append(slices.Clone(l), p))
				}
			}
			all = longer
		}
		for _, l := range all {
			text, toks := line(r.name, l)
			d, f := plainParts(r, toks, len(text))
			if f.Err != api.OK || d.Kind != r.kind {
				t.Fatalf("%q should be a line", text)
			}
			wantRead(t, text, d)
		}
	}
}

// TestPartsLeftOut: one, several, all.
func TestPartsLeftOut(t *testing.T) {
	for _, r := range plainRows() {
		whole := usual(r)
		for left := range 1 << len(whole) {
			var l []piece
			for i, p := range whole {
				if left>>i&1 == 1 {
					l = append(l, p)
				}
			}
			wantLine(t, r, l)
		}
		for n := range whole {
			text, _ := line(r.name, whole[:n])
			wantFault(t, text, api.ErrParts, len(text))
			wantFault(t, text+"  % so", api.ErrParts, len(text)+6)
		}
	}
}

// TestTooManyParts: one of every kind at every place, and more behind the last.
func TestTooManyParts(t *testing.T) {
	for _, r := range plainRows() {
		whole := usual(r)
		end, _ := line(r.name, whole)
		for _, p := range pieces() {
			for i := range len(whole) + 1 {
				wantLine(t, r, slices.Insert(slices.Clone(whole), i, p))
			}
			wantFault(t, end+" "+p.text, api.ErrParts, len(end)+1)
			wantFault(t, end+" "+p.text+" "+p.text, api.ErrParts, len(end)+1)
			wantFault(t, end+"\n  "+p.text+" % so", api.ErrParts, len(end)+3)
		}
		wantLine(t, r, append(slices.Clone(whole), whole...))
	}
}

// TestPartsReplaced: each part by every kind of token; each two parts by every two.
func TestPartsReplaced(t *testing.T) {
	for _, r := range plainRows() {
		whole := usual(r)
		for i, part := range r.parts {
			front, _ := line(r.name, whole[:i])
			for _, p := range pieces() {
				l := slices.Clone(whole)
				l[i] = p
				wantLine(t, r, l)
				if text, _ := line(r.name, l); !plainSuits(part, p.token.Kind) {
					wantFault(t, text, api.ErrParts, len(front)+1)
				}
				for j := range i {
					for _, q := range pieces() {
						m := slices.Clone(l)
						m[j] = q
						wantLine(t, r, m)
					}
				}
			}
		}
	}
}

// TestPartsOfOthers: each name with what belongs to each other one.
func TestPartsOfOthers(t *testing.T) {
	for _, r := range plainRows() {
		for _, other := range plainRows() {
			wantLine(t, r, usual(other))
			l := usual(other)
			slices.Reverse(l)
			wantLine(t, r, l)
		}
	}
}

// TestPlacesByHand: faults whose places are counted by hand.
func TestPlacesByHand(t *testing.T) {
	for text, at := range map[string]int{
		"enroll": 6, "enroll ": 7, " enroll  ": 9, "enroll bob bob": 11, "enroll bob,": 10, "enroll(bob)": 6, "enroll 7": 7, "enroll :-": 7,
		"assert bob": 10, "assert \"p.\"": 11, "assert bob 7": 11, "assert \"p.\" bob": 12, "assert \"p.\" \"p.\" \"p.\"": 17, "retract bob X": 12,
		"export bob \"p.\"": 15, "export bob 0 \"p.\"": 11, "export bob \"p.\" x": 16, "export bob \"p.\" 0 0": 18, "export bob": 10, "export": 6, "export 0": 7,
		"import 1": 7, "import bob": 10, "import bob \"1\"": 11, "import bob 1 1": 13, "forget bob 00": 0, "query bob \"p?\"": 14, "ask bob \"p?\" 9": 13, "watch bob \"p?\" 9": 15, "why bob": 7, "news bob": 8, "news 1 bob": 5,
		"loss bob": 8, "loss bob 1": 9, "loss bob Ann": 9, "loss bob ann ann": 13, "prove bob 9": 10, "show bob": 8, "show 1": 5, "clauses": 7, "clauses bob bob": 12, "redundant": 9, "redundant <": 10,
		"drop": 4, "drop bob": 5, "drop 1 2": 7, "copy \"1\"": 5, "swap": 4, "swap 1 2 3": 9, "swap x 2": 5, "swap 1 x": 7, "flip 1 2": 8, "flip 1": 6, "flip 1 2 3 4": 11, "flip 1 says 3": 7, "cut 1": 5, "cut 1 2 3": 8,
		"forge": 5, "forge x": 6, "forge 1": 6, "forge \"x\" \"x\"": 10, "waiting bob": 8, "waiting.": 7, "crash bob": 9, "crash 1": 6, "crash bob \"1\"": 10, "crash bob 1 1": 12,
	} {
		if at == 0 { // 00 is no number
			wantFault(t, text, api.ErrNumber, strings.Index(text, "00"))
		} else {
			wantFault(t, text, api.ErrParts, at)
		}
	}
}
