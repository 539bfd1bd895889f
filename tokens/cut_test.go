package tokens_test

import (
	"slices"
	"strings"
	"testing"

	"hearsay/api"
	"hearsay/tokens"
)

// P4.1, P4.7, P4.8.

func TestCutOfTheExamples(t *testing.T) {
	wantCut(t, "p(X) :- alice says q(X, -7).", list(
		at(word("p"), 0, 1), at(sign(api.TokOpen), 1, 2), at(variable("X"), 2, 3), at(sign(api.TokShut), 3, 4), at(sign(api.TokIf), 5, 7),
		at(word("alice"), 8, 13), at(sign(api.TokSays), 14, 18), at(word("q"), 19, 20), at(sign(api.TokOpen), 20, 21), at(variable("X"), 21, 22),
		at(sign(api.TokComma), 22, 23), at(num(-7), 24, 26), at(sign(api.TokShut), 26, 27), at(sign(api.TokDot), 27, 28)))
	wantCut(t, "", nil)
	wantFault(t, "", -1, fault(api.ErrTextLong, 0))
	wantFault(t, "ab", 1, fault(api.ErrTextLong, 0))
	wantCut(t, "% all of it", nil)
	wantCut(t, "a<=1<=-1<2", list(
		at(word("a"), 0, 1), at(sign(api.TokLe), 1, 3), at(num(1), 3, 4), at(sign(api.TokLe), 4, 6), at(num(-1), 6, 8), at(sign(api.TokLt), 8, 9), at(num(2), 9, 10)))
	wantCut(t, "1-2", list(at(num(1), 0, 1), at(num(-2), 1, 3)))
	wantCut(t, `a"b"c`, list(at(word("a"), 0, 1), at(quoted("b"), 1, 4), at(word("c"), 4, 5)))
	wantCut(t, "-9223372036854775808", list(at(num(leastInt), 0, 20)))
	wantCut(t, `"\xFf"`, list(at(quoted("\xff"), 0, 6)))
}

func TestFaultsOfTheExamples(t *testing.T) {
	for s, want := range map[string]api.Fault{
		"007":                 fault(api.ErrNumber, 0),
		"p(-0)":               fault(api.ErrNumber, 2),
		"x 12ab":              fault(api.ErrNumber, 2),
		"-":                   fault(api.ErrNumber, 0),
		"9223372036854775808": fault(api.ErrNumber, 0),
		"a:b":                 fault(api.ErrByte, 1),
		"!":                   fault(api.ErrByte, 0),
		"a > b":               fault(api.ErrByte, 2),
		"é":                   fault(api.ErrByte, 0),
		`"ab`:                 fault(api.ErrOpen, 0),
		`x "a\q"`:             fault(api.ErrEscape, 4),
		`"a\`:                 fault(api.ErrEscape, 2),
		"\"\t\"":              fault(api.ErrEscape, 1),
		`"\x4g"`:              fault(api.ErrEscape, 1),
	} {
		wantFault(t, s, 100, want)
	}
}

func TestCutOfLongTokens(t *testing.T) {
	long := strings.Repeat("a", 1000)
	wantCut(t, long, list(at(word(long), 0, 1000)))
	wantCut(t, "X"+long, list(at(variable("X"+long), 0, 1001)))
	wantCut(t, `"`+long+`"`, list(at(quoted(long), 0, 1002)))
	wantFault(t, "7"+long, 2000, fault(api.ErrNumber, 0))
	wantFault(t, strings.Repeat("9", 1000), 1000, fault(api.ErrNumber, 0))
}

// TestCutOfEveryKindAlone: with nothing, with blanks, and with remarks around it.
func TestCutOfEveryKindAlone(t *testing.T) {
	for _, k := range everyKind() {
		n := len(k.text)
		wantCut(t, k.text, list(at(k.token, 0, n)))
		wantCut(t, "%"+k.text, nil)
		for _, around := range []string{" ", "\t", "\n", "\r", " \t\r\n", "%\n", "% p(\"!\n", "%%\r\n", "\n%é\x00\n "} {
			p := len(around)
			wantCut(t, around+k.text+around, list(at(k.token, p, p+n)))
			wantCut(t, around+k.text+" %"+k.text, list(at(k.token, p, p+n)))
		}
	}
}

func TestCutOfEveryKindBesideEveryOther(t *testing.T) {
	for _, a := range everyKind() {
		for _, b := range everyKind() {
			for _, between := range []string{" ", "\t", "\n", "\r", "%\n", "% \"!\n", "  %b\n\n%c\n\t"} {
				p, q := len(a.text), len(a.text+between)
				wantCut(t, a.text+between+b.text, list(at(a.token, 0, p), at(b.token, q, q+len(b.text))))
			}
			wantAsPlain(t, a.text+b.text)
		}
	}
}

func TestCutOfWhatGrowsTogether(t *testing.T) {
	for _, c := range []struct {
		s    string
		want []api.Token
	}{
		{"pq", list(at(word("pq"), 0, 2))},
		{"p7", list(at(word("p7"), 0, 2))},
		{"pX", list(at(word("pX"), 0, 2))},
		{"p_", list(at(word("p_"), 0, 2))},
		{"Xp", list(at(variable("Xp"), 0, 2))},
		{"_7", list(at(variable("_7"), 0, 2))},
		{"saysq", list(at(word("saysq"), 0, 5))},
		{"says7", list(at(word("says7"), 0, 5))},
		{"psays", list(at(word("psays"), 0, 5))},
		{"77", list(at(num(77), 0, 2))},
		{"-77", list(at(num(-77), 0, 3))},
		{"7-7", list(at(num(7), 0, 1), at(num(-7), 1, 3))},
		{"-7-7", list(at(num(-7), 0, 2), at(num(-7), 2, 4))},
		{"p-7", list(at(word("p"), 0, 1), at(num(-7), 1, 3))},
		{"says-7", list(at(sign(api.TokSays), 0, 4), at(num(-7), 4, 6))},
		{"<=", list(at(sign(api.TokLe), 0, 2))},
		{"<==", list(at(sign(api.TokLe), 0, 2), at(sign(api.TokEq), 2, 3))},
		{"<<=", list(at(sign(api.TokLt), 0, 1), at(sign(api.TokLe), 1, 3))},
		{"==", list(at(sign(api.TokEq), 0, 1), at(sign(api.TokEq), 1, 2))},
		{"=<", list(at(sign(api.TokEq), 0, 1), at(sign(api.TokLt), 1, 2))},
		{"!==", list(at(sign(api.TokNe), 0, 2), at(sign(api.TokEq), 2, 3))},
		{"<!=", list(at(sign(api.TokLt), 0, 1), at(sign(api.TokNe), 1, 3))},
		{":--7", list(at(sign(api.TokIf), 0, 2), at(num(-7), 2, 4))},
		{`"a""b"`, list(at(quoted("a"), 0, 3), at(quoted("b"), 3, 6))},
		{`says"says"says`, list(at(sign(api.TokSays), 0, 4), at(quoted("says"), 4, 10), at(sign(api.TokSays), 10, 14))},
	} {
		wantCut(t, c.s, c.want)
	}
	for s, want := range map[string]api.Fault{
		"7p": fault(api.ErrNumber, 0), "7X": fault(api.ErrNumber, 0), "7_": fault(api.ErrNumber, 0), "-7says": fault(api.ErrNumber, 0),
		"00": fault(api.ErrNumber, 0), "07": fault(api.ErrNumber, 0), "--7": fault(api.ErrNumber, 0), "-07": fault(api.ErrNumber, 0), "-p": fault(api.ErrNumber, 0), "-_": fault(api.ErrNumber, 0),
		"7-": fault(api.ErrNumber, 1), "p-": fault(api.ErrNumber, 1), "- 7": fault(api.ErrNumber, 0), "7-0": fault(api.ErrNumber, 1), "-\"7\"": fault(api.ErrNumber, 0),
		": -": fault(api.ErrByte, 0), "! =": fault(api.ErrByte, 0), "::-": fault(api.ErrByte, 0), "!!=": fault(api.ErrByte, 0), ":=": fault(api.ErrByte, 0), "!-": fault(api.ErrByte, 0),
		"=:": fault(api.ErrByte, 1), "<:": fault(api.ErrByte, 1), "<!": fault(api.ErrByte, 1), ":-:": fault(api.ErrByte, 2), ":-!": fault(api.ErrByte, 2), "=>": fault(api.ErrByte, 1), ":-+7": fault(api.ErrByte, 2),
		":%\n-": fault(api.ErrByte, 0), "!%\n=": fault(api.ErrByte, 0), "-%\n7": fault(api.ErrNumber, 0),
	} {
		wantFault(t, s, len(s), want)
	}
}

func TestCutOfNumbersAtTheEnds(t *testing.T) {
	for s, n := range map[string]int{
		"9223372036854775806": greatestInt - 1, "9223372036854775807": greatestInt, "-9223372036854775807": leastInt + 1, "-9223372036854775808": leastInt,
		"999999999999999999": 999999999999999999, "1000000000000000000": 1000000000000000000, "-1": -1, "1": 1, "9": 9, "-9": -9, "100": 100,
	} {
		wantCut(t, s, list(at(num(n), 0, len(s))))
	}
	for _, s := range []string{
		"9223372036854775808", "9223372036854775809", "-9223372036854775809", "-9223372036854775810", "10000000000000000000", "-10000000000000000000",
		"18446744073709551615", "18446744073709551616", "18446744073709551617", "-18446744073709551616", "99999999999999999999999999999", "09223372036854775807", "-00", "0x1", "1e3", "1_000", "0b1", "0_",
	} {
		wantFault(t, s, 100, fault(api.ErrNumber, 0))
		wantFault(t, "p( "+s+" )", 100, fault(api.ErrNumber, 3))
	}
}

func TestCutOfTextsAtAndAboveMost(t *testing.T) {
	for _, s := range []string{"", "p", "% no", "p(X) :- q(X).", "  ", `"é"`} {
		n := len(s)
		whole, _ := tokens.Cut(s, n)
		for _, most := range []int{n, n + 1, greatestInt} {
			if l, f := tokens.Cut(s, most); !slices.Equal(l, whole) || f != (api.Fault{}) {
				t.Errorf("Cut(%q, %d) is %v, %v; want %v", s, most, l, f, whole)
			}
		}
		for _, most := range []int{n - 1, -1, leastInt} {
			wantFault(t, s, most, fault(api.ErrTextLong, 0))
		}
	}
	for _, s := range []string{"p!", "p 007", `p "`, `p "\q"`} {
		wantFault(t, s, len(s)-1, fault(api.ErrTextLong, 0))
		wantFault(t, s, -1, fault(api.ErrTextLong, 0))
	}
}

func TestCutOfEverySingleByte(t *testing.T) {
	want := map[byte]api.Token{'(': sign(6), ')': sign(7), ',': sign(8), ';': sign(9), '.': sign(10), '?': sign(12), '=': sign(13), '<': sign(15), '_': variable("_")}
	for c := byte('a'); c <= 'z'; c++ {
		want[c], want[c-'a'+'A'] = word(string(c)), variable(string(c-'a'+'A'))
	}
	for c := byte('0'); c <= '9'; c++ {
		want[c] = num(int(c - '0'))
	}
	faults := map[byte]api.Errno{'-': api.ErrNumber, '"': api.ErrOpen}
	for c := range 256 {
		s := string([]byte{byte(c)})
		if k, ok := want[byte(c)]; ok {
			wantCut(t, s, list(at(k, 0, 1)))
		} else if strings.Contains(" \t\n\r%", s) {
			wantCut(t, s, nil)
		} else {
			err, ok := faults[byte(c)]
			if !ok {
				err = api.ErrByte
			}
			wantFault(t, s, 1, fault(err, 0))
			wantFault(t, "p(\n"+s, 4, fault(err, 3))
		}
	}
}

func TestCutOfQuotedBytes(t *testing.T) {
	for c := range 256 {
		s := string([]byte{byte(c)})
		inQuotes := "p \"a" + s + "b\""
		switch {
		case c == 34:
			wantFault(t, inQuotes, 99, fault(api.ErrOpen, 6))
		case c < 32 || c == 92 || c == 127:
			wantFault(t, inQuotes, 99, fault(api.ErrEscape, 4))
		default:
			wantCut(t, inQuotes, list(at(word("p"), 0, 1), at(quoted("a"+s+"b"), 2, 7)))
		}
	}
}

func TestCutOfEveryEscape(t *testing.T) {
	means := map[byte]string{'"': "\"", '\\': "\\", 'n': "\n", 't': "\t"}
	for c := range 256 {
		s := "p \"a\\" + string([]byte{byte(c)}) + "b\""
		if m, ok := means[byte(c)]; ok {
			wantCut(t, s, list(at(word("p"), 0, 1), at(quoted("a"+m+"b"), 2, 8)))
		} else {
			wantFault(t, s, 99, fault(api.ErrEscape, 4))
		}
	}
	const digits = "0123456789abcdefABCDEF"
	for c := range 256 {
		for d := range 256 {
			s := "p \"a\\x" + string([]byte{byte(c), byte(d)}) + "b\""
			i, k := strings.IndexByte(digits, byte(c)), strings.IndexByte(digits, byte(d))
			if i < 0 || k < 0 {
				wantFault(t, s, 99, fault(api.ErrEscape, 4))
				continue
			}
			value := func(i int) int { return i - i/16*6 }
			wantCut(t, s, list(at(word("p"), 0, 1), at(quoted("a"+string([]byte{byte(16*value(i) + value(k))})+"b"), 2, 10)))
		}
	}
}

// TestCutOfQuotesWithoutAnEnd: the first fault from the left counts, so ErrEscape stands ahead of ErrOpen.
func TestCutOfQuotesWithoutAnEnd(t *testing.T) {
	for s, want := range map[string]api.Fault{
		`"`:              fault(api.ErrOpen, 0),
		`p "`:            fault(api.ErrOpen, 2),
		`"" "`:           fault(api.ErrOpen, 3),
		`"""`:            fault(api.ErrOpen, 2),
		`"a\"`:           fault(api.ErrOpen, 0),
		`"a\\\"`:         fault(api.ErrOpen, 0),
		`"\\`:            fault(api.ErrOpen, 0),
		`"\x41`:          fault(api.ErrOpen, 0),
		`"a % b`:         fault(api.ErrOpen, 0),
		"\"é\xff":        fault(api.ErrOpen, 0),
		`"\`:             fault(api.ErrEscape, 1),
		`"\\\`:           fault(api.ErrEscape, 3),
		`"\x`:            fault(api.ErrEscape, 1),
		`"\x4`:           fault(api.ErrEscape, 1),
		`"\x"`:           fault(api.ErrEscape, 1),
		`"\x4"`:          fault(api.ErrEscape, 1),
		`"\x4""`:         fault(api.ErrEscape, 1),
		`"\X41"`:         fault(api.ErrEscape, 1),
		`"\q`:            fault(api.ErrEscape, 1),
		"\"a\nb":         fault(api.ErrEscape, 2),
		"\"a\x7f":        fault(api.ErrEscape, 2),
		"\"a\x00\\q":     fault(api.ErrEscape, 2),
		"\"\\q\x00":      fault(api.ErrEscape, 1),
		"\"a% \n\"":      fault(api.ErrEscape, 4),
		"p \"a\" \"\\q!": fault(api.ErrEscape, 7),
	} {
		wantFault(t, s, 99, want)
	}
}

func TestCutOfRemarks(t *testing.T) {
	p := func(n int) []api.Token { return list(at(word("p"), n, n+1)) }
	for s, want := range map[string][]api.Token{
		"%": nil, "%p": nil, "%\n": nil, "%\n%": nil, "% \" \\ ! é \x00 007": nil, "%\r p": nil,
		"%\np": p(2), "p%": p(0), "p%q": p(0), "p%q\n": p(0), "%%%\np": p(4), "%\r\np": p(3), "%p\n%p\np": p(6), "\"%\"": list(at(quoted("%"), 0, 3)),
	} {
		wantCut(t, s, want)
	}
	wantFault(t, "% !\n!", 99, fault(api.ErrByte, 4))
	wantFault(t, "p % no end\n\"", 99, fault(api.ErrOpen, 11))
}

func TestCutTellsTheFirstFaultFromTheLeft(t *testing.T) {
	faults := []struct {
		s string
		f api.Fault
	}{{"!", fault(api.ErrByte, 0)}, {"007", fault(api.ErrNumber, 0)}, {`"\q"`, fault(api.ErrEscape, 1)}, {"\"\x01\"", fault(api.ErrEscape, 1)}, {`"`, fault(api.ErrOpen, 0)}}
	for _, a := range faults {
		for _, b := range faults {
			if a.f.Err != api.ErrOpen {
				wantFault(t, "p. "+a.s+" "+b.s, 99, fault(a.f.Err, 3+a.f.At))
			}
		}
	}
}

func wantAsPlain(t *testing.T, s string) {
	t.Helper()
	want, wantFault := plainCut(s)
	if l, f := tokens.Cut(s, len(s)); !slices.Equal(l, want) || f != wantFault {
		t.Fatalf("P4.1: Cut(%q) is %v, %v; want %v, %v", s, l, f, want, wantFault)
	}
}

func TestCutIsThePlainReading(t *testing.T) {
	for s := range manyTexts() {
		wantAsPlain(t, s)
	}
}

// P4.7.
func TestPlacesRise(t *testing.T) {
	for s := range manyTexts() {
		l, _ := tokens.Cut(s, len(s))
		end := 0
		for _, k := range l {
			if k.At >= k.End || k.At < end || k.End > len(s) {
				t.Fatalf("P4.7: Cut(%q): the places of %v, behind %d", s, k, end)
			}
			if gap := s[end:k.At]; !plainGap.MatchString(gap) {
				t.Fatalf("P4.7: Cut(%q): %q between two tokens", s, gap)
			}
			if alone, f := tokens.Cut(s[k.At:k.End], k.End-k.At); !slices.Equal(alone, list(at(k, 0, k.End-k.At))) || f != (api.Fault{}) {
				t.Fatalf("P4.7: Cut(%q): %v, cut alone, is %v, %v", s, k, alone, f)
			}
			end = k.End
		}
	}
}

// P4.8: what stands ahead of a fault inside of quotes is a quoted text without an end.
func TestFrontOfAFault(t *testing.T) {
	for s := range manyTexts() {
		_, f := tokens.Cut(s, len(s))
		if f.Err == api.OK {
			continue
		}
		want := api.Fault{}
		if f.Err == api.ErrEscape {
			want.Err = api.ErrOpen
		}
		if l, front := tokens.Cut(s[:f.At], f.At); front.Err != want.Err || want.Err != api.OK && len(l) != 0 {
			t.Fatalf("P4.8: Cut(%q) is %v; its front is %v, %v", s, f, l, front)
		}
	}
}
