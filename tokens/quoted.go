package tokens

import "hearsay/api"

const hexDigits = "0123456789abcdef"

// quotedAt: the quoted text that begins at at, or its first fault from the left.
func quotedAt(text string, at int) (api.Token, api.Fault) {
	var means []byte
	for i := at + 1; i < len(text); {
		switch c := text[i]; {
		case c == '"':
			return api.Token{Kind: api.TokText, Text: string(means), At: at, End: i + 1}, api.Fault{}
		case c == '\\':
			b, end := escapeAt(text, i)
			if end == i {
				return api.Token{}, api.Fault{Err: api.ErrEscape, At: i}
			}
			means = append(means, b)
			i = end
		case c < 32 || c == 127:
			return api.Token{}, api.Fault{Err: api.ErrEscape, At: i}
		default:
			means = append(means, c)
			i++
		}
	}
	return api.Token{}, api.Fault{Err: api.ErrOpen, At: at}
}

// escapeAt: the byte that the escape at the backslash's place at stands for, and the place behind it; at itself, if it is none.
func escapeAt(text string, at int) (byte, int) {
	if at+1 >= len(text) {
		return 0, at
	}
	switch c := text[at+1]; c {
	case '"', '\\':
		return c, at + 2
	case 'n':
		return '\n', at + 2
	case 't':
		return '\t', at + 2
	case 'x':
		if b, ok := hexByte(text, at+2); ok {
			return b, at + 4
		}
	}
	return 0, at
}

func hexByte(text string, at int) (byte, bool) {
	if at+2 > len(text) {
		return 0, false
	}
	high, okHigh := digitValue(text[at])
	low, okLow := digitValue(text[at+1])
	if !okHigh || !okLow {
		return 0, false
	}
	return high<<4 | low, true
}

func digitValue(c byte) (byte, bool) {
	switch {
	case digit(c):
		return c - '0', true
	case 'a' <= c && c <= 'f':
		return c - 'a' + 10, true
	case 'A' <= c && c <= 'F':
		return c - 'A' + 10, true
	}
	return 0, false
}

// Quote: the text in quotes, every byte that needs it escaped.
func Quote(s string) string {
	out := []byte{'"'}
	for i := range len(s) {
		switch c := s[i]; {
		case c == '"' || c == '\\':
			out = append(out, '\\', c)
		case c == '\n':
			out = append(out, '\\', 'n')
		case c == '\t':
			out = append(out, '\\', 't')
		case c < 32 || c > 126:
			out = append(out, '\\', 'x', hexDigits[c>>4], hexDigits[c&15])
		default:
			out = append(out, c)
		}
	}
	return string(append(out, '"'))
}
