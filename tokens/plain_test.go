package tokens_test

import (
	"math/big"
	"regexp"
	"strconv"

	"hearsay/api"
)

// A plain reading of P4.1, by regular expressions, that Cut is held against.

var (
	plainBetween  = regexp.MustCompile(`^(?:[ \t\n\r]|%[^\n]*)+`)
	plainGap      = regexp.MustCompile(`^(?:[ \t\n\r]|%[^\n]*\n)*$`)
	plainRun      = regexp.MustCompile(`^[A-Za-z0-9_]+`)
	plainDigits   = regexp.MustCompile(`^-?[A-Za-z0-9_]*`)
	plainNumber   = regexp.MustCompile(`^(?:0|-?[1-9][0-9]*)$`)
	plainSign     = regexp.MustCompile(`^(?::-|!=|<=|[(),;.?=<])`)
	plainUpToEnd  = regexp.MustCompile(`^"(?:[^\x00-\x1f"\\\x7f]|\\["\\nt]|\\x[0-9a-fA-F][0-9a-fA-F])*`)
	plainEscape   = regexp.MustCompile(`\\(?:x..|.)`)
	plainWord     = regexp.MustCompile(`^[a-z][A-Za-z0-9_]*$`)
	plainVariable = regexp.MustCompile(`^[A-Z_][A-Za-z0-9_]*$`)
)

var plainKinds = map[string]int{
	"says": 5, "(": 6, ")": 7, ",": 8, ";": 9, ".": 10, ":-": 11, "?": 12, "=": 13, "!=": 14, "<": 15, "<=": 16,
}

func plainMeaning(inside string) string {
	return plainEscape.ReplaceAllStringFunc(inside, func(e string) string {
		switch e[1] {
		case 'n':
			return "\n"
		case 't':
			return "\t"
		case 'x':
			n, _ := strconv.ParseUint(e[2:], 16, 8)
			return string([]byte{byte(n)})
		}
		return e[1:]
	})
}

// plainNext: the token (its places as if s began the text) or the fault with which s begins.
func plainNext(s string) (api.Token, api.Fault) {
	run := plainRun.FindString(s)
	switch c := s[0]; {
	case run == "says":
		return api.Token{Kind: 5, End: 4}, api.Fault{}
	case plainWord.MatchString(run):
		return api.Token{Kind: 1, Text: run, End: len(run)}, api.Fault{}
	case plainVariable.MatchString(run):
		return api.Token{Kind: 2, Text: run, End: len(run)}, api.Fault{}
	case run != "" || c == '-':
		digits := plainDigits.FindString(s)
		n, _ := new(big.Int).SetString(digits, 10)
		if !plainNumber.MatchString(digits) || !n.IsInt64() {
			return api.Token{}, fault(45, 0)
		}
		return api.Token{Kind: 4, N: int(n.Int64()), End: len(digits)}, api.Fault{}
	case c == '"':
		good := plainUpToEnd.FindString(s)
		switch rest := s[len(good):]; {
		case rest == "":
			return api.Token{}, fault(43, 0)
		case rest[0] == '"':
			return api.Token{Kind: 3, Text: plainMeaning(good[1:]), End: len(good) + 1}, api.Fault{}
		}
		return api.Token{}, fault(44, len(good))
	}
	sign := plainSign.FindString(s)
	if sign == "" {
		return api.Token{}, fault(42, 0)
	}
	return api.Token{Kind: plainKinds[sign], End: len(sign)}, api.Fault{}
}

func plainCut(s string) ([]api.Token, api.Fault) {
	var out []api.Token
	for p := 0; ; {
		p += len(plainBetween.FindString(s[p:]))
		if p == len(s) {
			return out, api.Fault{}
		}
		t, f := plainNext(s[p:])
		if f.Err != api.OK {
			return nil, fault(f.Err, p+f.At)
		}
		out = append(out, at(t, p, p+t.End))
		p += t.End
	}
}

// plainSpelling: P4.4's words; "" if there is none.
func plainSpelling(t api.Token) string {
	switch {
	case t.Kind == 1 && plainWord.MatchString(t.Text) && t.Text != "says" && t.N == 0:
		return t.Text
	case t.Kind == 2 && plainVariable.MatchString(t.Text) && t.N == 0:
		return t.Text
	case t.Kind == 3 && t.N == 0:
		return plainQuote(t.Text)
	case t.Kind == 4 && t.Text == "":
		return big.NewInt(int64(t.N)).String()
	}
	for sign, kind := range plainKinds {
		if t.Kind == kind && t.Text == "" && t.N == 0 {
			return sign
		}
	}
	return ""
}

// plainQuote: by the table of plainByte, byte by byte.
func plainQuote(s string) string {
	out := "\""
	for i := range len(s) {
		out += plainByte(s[i])
	}
	return out + "\""
}

func plainByte(c byte) string {
	switch c {
	case 9:
		return `\t`
	case 10:
		return `\n`
	case 34:
		return `\"`
	case 92:
		return `\\`
	}
	if 32 <= c && c <= 126 {
		return string([]byte{c})
	}
	digits := strconv.FormatUint(uint64(c), 16)
	if c < 16 {
		digits = "0" + digits
	}
	return `\x` + digits
}
