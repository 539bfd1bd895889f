package tokens_test

import (
	"iter"
	"math/rand"
	"slices"
	"strings"
	"testing"

	"hearsay/api"
	"hearsay/tokens"
)

const (
	leastInt    = -1 << 63
	greatestInt = 1<<63 - 1
)

func sign(kind int) api.Token     { return api.Token{Kind: kind} }
func word(s string) api.Token     { return api.Token{Kind: api.TokWord, Text: s} }
func variable(s string) api.Token { return api.Token{Kind: api.TokVar, Text: s} }
func quoted(s string) api.Token   { return api.Token{Kind: api.TokText, Text: s} }
func num(n int) api.Token         { return api.Token{Kind: api.TokNum, N: n} }

func at(t api.Token, at, end int) api.Token {
	t.At, t.End = at, end
	return t
}

func list(l ...api.Token) []api.Token { return l }

func fault(err api.Errno, at int) api.Fault { return api.Fault{Err: err, At: at} }

// bare: the tokens without their places.
func bare(l []api.Token) []api.Token {
	var out []api.Token
	for _, t := range l {
		out = append(out, at(t, 0, 0))
	}
	return out
}

// spelled: a token, and how it is written.
type spelled struct {
	token api.Token
	text  string
}

// everyKind: each kind at least once, those with a field several times.
func everyKind() []spelled {
	return []spelled{
		{word("p"), "p"}, {word("aliceZ_09"), "aliceZ_09"}, {word("say"), "say"}, {word("saysx"), "saysx"}, {word("x"), "x"},
		{variable("X"), "X"}, {variable("_"), "_"}, {variable("_says"), "_says"}, {variable("Says"), "Says"}, {variable("Zz9"), "Zz9"}, {variable("A"), "A"},
		{quoted(""), `""`}, {quoted("a b"), `"a b"`}, {quoted("%"), `"%"`}, {quoted("\"\\\n\t"), `"\"\\\n\t"`}, {quoted("\x00\x1f\x7f\x80\xff"), `"\x00\x1f\x7f\x80\xff"`}, {quoted("says"), `"says"`},
		{num(0), "0"}, {num(1), "1"}, {num(-1), "-1"}, {num(7), "7"}, {num(10), "10"}, {num(-7), "-7"}, {num(-10), "-10"}, {num(greatestInt), "9223372036854775807"}, {num(leastInt), "-9223372036854775808"},
		{sign(api.TokSays), "says"},
		{sign(api.TokOpen), "("}, {sign(api.TokShut), ")"}, {sign(api.TokComma), ","}, {sign(api.TokSemi), ";"}, {sign(api.TokDot), "."},
		{sign(api.TokIf), ":-"}, {sign(api.TokAsk), "?"},
		{sign(api.TokEq), "="}, {sign(api.TokNe), "!="}, {sign(api.TokLt), "<"}, {sign(api.TokLe), "<="},
	}
}

// shortTexts: every text of at most most of the bytes.
func shortTexts(bytes string, most int) iter.Seq[string] {
	return func(yield func(string) bool) {
		layer := []string{""}
		for n := 0; ; n++ {
			var longer []string
			for _, s := range layer {
				if !yield(s) {
					return
				}
				for i := range len(bytes) {
					longer = append(longer, s+bytes[i:i+1])
				}
			}
			if n == most {
				return
			}
			layer = longer
		}
	}
}

// mixedTexts: texts put together from spellings, blanks, remarks, pieces with a fault and any bytes; the same ones at every run.
func mixedTexts(n int) iter.Seq[string] {
	pieces := []string{" ", "\t", "\r\n", "%", "% x\n", "%\"\n", "\\", "\"", "\"\\x4", "\"\\q\"", "\"\t\"", "007", "-", "-0", "12ab", ":", "!", ">", "é", "9223372036854775808", "\x00", "\"\x80\\\\"}
	for _, k := range everyKind() {
		pieces = append(pieces, k.text, k.text, k.text)
	}
	return func(yield func(string) bool) {
		r := rand.New(rand.NewSource(4))
		for range n {
			var b strings.Builder
			for range r.Intn(9) {
				b.WriteString(pieces[r.Intn(len(pieces))])
				if r.Intn(20) == 0 {
					b.WriteByte(byte(r.Intn(256)))
				}
			}
			if !yield(b.String()) {
				return
			}
		}
	}
}

// manyTexts: what the promises about any text are held against.
func manyTexts() iter.Seq[string] {
	return func(yield func(string) bool) {
		for s := range shortTexts("pX_07-\"\\xn%\n <=:!.\x80\x7f", 4) {
			if !yield(s) {
				return
			}
		}
		for s := range mixedTexts(30000) {
			if !yield(s) {
				return
			}
		}
	}
}

func wantCut(t *testing.T, s string, want []api.Token) {
	t.Helper()
	if l, f := tokens.Cut(s, len(s)); !slices.Equal(l, want) || f != (api.Fault{}) {
		t.Errorf("Cut(%q) is %v, %v; want %v", s, l, f, want)
	}
}

func wantFault(t *testing.T, s string, most int, want api.Fault) {
	t.Helper()
	if l, f := tokens.Cut(s, most); len(l) != 0 || f != want {
		t.Errorf("Cut(%q, %d) is %v, %v; want %v", s, most, l, f, want)
	}
}
