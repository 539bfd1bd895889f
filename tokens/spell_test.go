package tokens_test

import (
	"slices"
	"strings"
	"testing"

	"hearsay/api"
	"hearsay/tokens"
)

// P4.2, P4.3, P4.4.

func wantSpell(t *testing.T, k api.Token, want string) {
	t.Helper()
	if s, ok := tokens.Spell(k); s != want || ok != (want != "") {
		t.Errorf("Spell(%#v) is %q, %v; want %q", k, s, ok, want)
	}
}

// P4.2.
func TestWord(t *testing.T) {
	for s, want := range map[string]bool{
		"": false, "p": true, "pQ_9": true, "z": true, "a": true, "p_": true, "p9": true, "aZ": true, "say": true, "saysx": true, "says_": true, "sayS": true, "saysays": true,
		"says": false, "Says": false, "P": false, "_p": false, "_": false, "9p": false, "-p": false, "p-q": false, "p q": false, " p": false, "p ": false, "p\n": false, "p%": false, "p.": false, "pé": false, "é": false, "p\x00": false, `"p"`: false,
	} {
		if tokens.Word(s) != want {
			t.Errorf("Word(%q) is %v", s, !want)
		}
	}
	long := strings.Repeat("a", 100000)
	if !tokens.Word(long) || tokens.Word(long+"!") {
		t.Errorf("Word looks at the length of a long one, or doesn't look at its end")
	}
}

func TestWordOfEverySingleByte(t *testing.T) {
	for c := range 256 {
		s := string([]byte{byte(c)})
		if want := 'a' <= c && c <= 'z'; tokens.Word(s) != want {
			t.Errorf("Word(%q) is %v", s, !want)
		}
		want := plainRun.MatchString(s)
		for _, w := range []string{"p" + s, "p" + s + "q", "says" + s} {
			if tokens.Word(w) != want {
				t.Errorf("Word(%q) is %v", w, !want)
			}
		}
	}
}

// TestWordIsWhatCutReadsAsOne: over all short texts.
func TestWordIsWhatCutReadsAsOne(t *testing.T) {
	for s := range shortTexts("sayZ_0- %\x80", 5) {
		l, _ := tokens.Cut(s, len(s))
		want := slices.Equal(l, list(at(word(s), 0, len(s))))
		if tokens.Word(s) != want {
			t.Fatalf("P4.2: Word(%q) is %v", s, !want)
		}
	}
}

// P4.3.
func TestQuoteOfEverySingleByte(t *testing.T) {
	for c := range 256 {
		s := string([]byte{byte(c)})
		if got, want := tokens.Quote(s), `"`+plainByte(byte(c))+`"`; got != want {
			t.Errorf("Quote(%q) is %s; want %s", s, got, want)
		}
		if got, want := tokens.Quote("a"+s+s+"\""), `"a`+plainByte(byte(c))+plainByte(byte(c))+`\""`; got != want {
			t.Errorf("Quote(a%q%q\") is %s; want %s", s, s, got, want)
		}
	}
}

func TestQuote(t *testing.T) {
	for s, want := range map[string]string{
		"": `""`, "says": `"says"`, "p(X) :- q. % no": `"p(X) :- q. % no"`, "a\"\n\xc8": `"a\"\n\xc8"`, "\x00\x0f\x10\x1f": `"\x00\x0f\x10\x1f"`, " ~\x7f\x80": `" ~\x7f\x80"`, "é": `"\xc3\xa9"`,
		"\xab\xef\xff": `"\xab\xef\xff"`, `\n`: `"\\n"`, `\x41`: `"\\x41"`, "\r\t": `"\x0d\t"`, `""`: `"\"\""`,
	} {
		if got := tokens.Quote(s); got != want {
			t.Errorf("Quote(%q) is %s; want %s", s, got, want)
		}
	}
	long := strings.Repeat("a\xff", 10000)
	if got := tokens.Quote(long); got != `"`+strings.Repeat(`a\xff`, 10000)+`"` {
		t.Errorf("Quote of a long text has %d bytes", len(got))
	}
}

func TestQuoteIsReadAsTheText(t *testing.T) {
	for s := range manyTexts() {
		q := tokens.Quote(s)
		if l, f := tokens.Cut(q, len(q)); !slices.Equal(l, list(at(quoted(s), 0, len(q)))) || f != (api.Fault{}) {
			t.Fatalf("P4.3: Quote(%q) is read as %v, %v", s, l, f)
		}
	}
}

// P4.4.
func TestSpellOfTheExamples(t *testing.T) {
	wantSpell(t, quoted("a\"\n\xc8"), `"a\"\n\xc8"`)
	wantSpell(t, word("says"), "")
	wantSpell(t, api.Token{Kind: api.TokWord, Text: "p", N: 1}, "")
	wantSpell(t, variable("x"), "")
	wantSpell(t, sign(0), "")
	wantSpell(t, api.Token{Kind: api.TokDot, Text: "."}, "")
	wantSpell(t, num(leastInt), "-9223372036854775808")
}

func TestSpellOfEveryKind(t *testing.T) {
	for _, k := range everyKind() {
		wantSpell(t, k.token, k.text)
		for _, places := range [][2]int{{3, 4}, {9, 2}, {-1, -1}, {leastInt, greatestInt}} {
			wantSpell(t, at(k.token, places[0], places[1]), k.text)
		}
	}
}

func TestSpellAsksForZeroInFieldsThatTheKindDoesNotUse(t *testing.T) {
	for _, k := range everyKind() {
		if k.token.Kind != api.TokNum {
			for _, n := range []int{1, -1, greatestInt, leastInt} {
				k.token.N = n
				wantSpell(t, k.token, "")
			}
			k.token.N = 0
		}
		if k.token.Text == "" && k.token.Kind != api.TokText {
			for _, s := range []string{k.text, "p", " ", "\x00"} {
				k.token.Text = s
				wantSpell(t, k.token, "")
			}
		}
	}
}

func TestSpellOfKindsThatAreNone(t *testing.T) {
	for _, kind := range []int{leastInt, leastInt + 1, -17, -1, 0, 17, 18, 99, 256, 257, 1 << 32, 1<<32 + 5, greatestInt} {
		wantSpell(t, sign(kind), "")
		wantSpell(t, api.Token{Kind: kind, Text: "p"}, "")
		wantSpell(t, api.Token{Kind: kind, N: 7}, "")
		wantSpell(t, api.Token{Kind: kind, Text: "X", N: leastInt, At: 1, End: 2}, "")
	}
}

// TestSpellOfTextsOfRuns: of each short text as a word's and as a variable's.
func TestSpellOfTextsOfRuns(t *testing.T) {
	for s := range shortTexts("psayXZ_09 \n%-\"\x80", 4) {
		for kind := api.TokWord; kind <= api.TokText; kind++ {
			k := api.Token{Kind: kind, Text: s}
			wantSpell(t, k, plainSpelling(k))
		}
	}
}

// TestSpellIsReadAsTheToken: what has a spelling is read as it; what hasn't is told "" alone.
func TestSpellIsReadAsTheToken(t *testing.T) {
	for kind := -2; kind <= 19; kind++ {
		for _, s := range []string{"", "p", "X", "_", "says", "saysx", "a b", "7", "-7", "(", ".", "<=", "\"", "é\n", "\x00", strings.Repeat("q", 100), strings.Repeat("Q", 100)} {
			for _, n := range []int{0, 1, -1, 42, greatestInt, leastInt} {
				k := api.Token{Kind: kind, Text: s, N: n}
				wantSpell(t, k, plainSpelling(k))
				text, ok := tokens.Spell(k)
				if !ok {
					continue
				}
				if l, f := tokens.Cut(text, len(text)); !slices.Equal(l, list(at(k, 0, len(text)))) || f != (api.Fault{}) {
					t.Errorf("P4.4: Spell(%#v) is %q, read as %v, %v", k, text, l, f)
				}
			}
		}
	}
}
