package tokens_test

import (
	"math/rand"
	"slices"
	"strings"
	"testing"

	"hearsay/api"
	"hearsay/tokens"
)

// P4.5, P4.6.

func wantJoin(t *testing.T, l []api.Token, want string) {
	t.Helper()
	if s, ok := tokens.Join(l); s != want || !ok {
		t.Errorf("Join(%v) is %q, %v; want %q", l, s, ok, want)
	}
}

func wantNoJoin(t *testing.T, l []api.Token) {
	t.Helper()
	if s, ok := tokens.Join(l); s != "" || ok {
		t.Errorf("Join(%v) is %q, %v; want none", l, s, ok)
	}
}

func TestJoinOfTheExamples(t *testing.T) {
	wantJoin(t, list(word("p"), sign(api.TokOpen), variable("X"), sign(api.TokShut), sign(api.TokIf), word("alice"), sign(api.TokSays), word("q"), sign(api.TokDot)), "p(X):-alice says q.")
	wantJoin(t, list(num(1), num(2), num(-3)), "1 2-3")
	wantJoin(t, list(sign(api.TokLt), sign(api.TokEq)), "< =")
	wantJoin(t, list(sign(api.TokLt), sign(api.TokLe)), "<<=")
	wantJoin(t, list(sign(api.TokIf), num(-5)), ":--5")
	wantJoin(t, nil, "")
	wantJoin(t, []api.Token{}, "")
}

// TestJoinOfEveryTwo: the blank stands just where the promise names it, and just where it is needed.
func TestJoinOfEveryTwo(t *testing.T) {
	runs := []int{api.TokWord, api.TokVar, api.TokSays, api.TokNum}
	for _, a := range everyKind() {
		for _, b := range everyKind() {
			named := slices.Contains(runs, a.token.Kind) && slices.Contains(runs, b.token.Kind) && b.token.N >= 0 || a.token.Kind == api.TokLt && b.token.Kind == api.TokEq
			pair := list(a.token, b.token)
			if named {
				wantJoin(t, pair, a.text+" "+b.text)
			} else {
				wantJoin(t, pair, a.text+b.text)
			}
			l, _ := plainCut(a.text + b.text)
			if needed := !slices.Equal(bare(l), pair); needed != named {
				t.Errorf("P4.5: a blank between %q and %q is needed: %v; named: %v", a.text, b.text, needed, named)
			}
		}
	}
}

func TestJoinAsksNothingOfPlaces(t *testing.T) {
	wantJoin(t, list(at(num(1), 9, 3), at(word("p"), leastInt, greatestInt), at(sign(api.TokDot), -1, 0)), "1 p.")
}

func TestJoinOfTokensWithoutSpelling(t *testing.T) {
	wrong := list(sign(0), sign(17), sign(-1), sign(leastInt), sign(greatestInt), word(""), word("says"), word("X"), word("p q"), variable(""), variable("x"), variable("X "),
		api.Token{Kind: api.TokWord, Text: "p", N: 1}, api.Token{Kind: api.TokText, N: -1}, api.Token{Kind: api.TokNum, Text: "7", N: 7}, api.Token{Kind: api.TokSays, Text: "says"}, api.Token{Kind: api.TokEq, N: 1})
	for _, w := range wrong {
		wantNoJoin(t, list(w))
		wantNoJoin(t, list(w, word("p"), num(7)))
		wantNoJoin(t, list(word("p"), w, num(7)))
		wantNoJoin(t, list(word("p"), num(7), w))
		wantNoJoin(t, list(w, w))
	}
}

// randomList: the same ones at every run.
func randomList(r *rand.Rand) []api.Token {
	kinds := everyKind()
	var l []api.Token
	for range r.Intn(12) {
		l = append(l, kinds[r.Intn(len(kinds))].token)
	}
	return l
}

// P4.6.
func TestJoinAndBack(t *testing.T) {
	r := rand.New(rand.NewSource(46))
	for range 20000 {
		l := randomList(r)
		s, ok := tokens.Join(l)
		if !ok {
			t.Fatalf("P4.6: Join(%v) is none", l)
		}
		if back, f := tokens.Cut(s, len(s)); !slices.Equal(bare(back), l) || f != (api.Fault{}) {
			t.Fatalf("P4.6: Join(%v) is %q, read as %v, %v", l, s, back, f)
		}
	}
}

func TestJoinOfEveryThreeAndBack(t *testing.T) {
	for _, a := range everyKind() {
		for _, b := range everyKind() {
			for _, c := range everyKind() {
				l := list(a.token, b.token, c.token)
				s, ok := tokens.Join(l)
				back, f := tokens.Cut(s, len(s))
				if !ok || !slices.Equal(bare(back), l) || f != (api.Fault{}) {
					t.Fatalf("P4.6: Join(%v) is %q, %v, read as %v, %v", l, s, ok, back, f)
				}
			}
		}
	}
}

func TestCutAndBack(t *testing.T) {
	for s := range manyTexts() {
		l, f := tokens.Cut(s, len(s))
		if f.Err != api.OK {
			continue
		}
		joined, ok := tokens.Join(l)
		if !ok {
			t.Fatalf("P4.6: Join of the tokens of %q is none", s)
		}
		if back, f := tokens.Cut(joined, len(joined)); !slices.Equal(bare(back), bare(l)) || f != (api.Fault{}) {
			t.Fatalf("P4.6: %q joined is %q, read as %v, %v; want %v", s, joined, back, f, l)
		}
	}
}

// TestQuotedTextsGrow: bytes from 128 on are written with four.
func TestQuotedTextsGrow(t *testing.T) {
	s := "\"" + strings.Repeat("\xc8", 100) + "\""
	l, _ := tokens.Cut(s, 102)
	wantJoin(t, l, `"`+strings.Repeat(`\xc8`, 100)+`"`)
}
