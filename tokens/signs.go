package tokens

import "hearsay/api"

// signs: what each kind is written as that is always written alike.
var signs = [...]string{
	api.TokSays:  "says",
	api.TokOpen:  "(",
	api.TokShut:  ")",
	api.TokComma: ",",
	api.TokSemi:  ";",
	api.TokDot:   ".",
	api.TokIf:    ":-",
	api.TokAsk:   "?",
	api.TokEq:    "=",
	api.TokNe:    "!=",
	api.TokLt:    "<",
	api.TokLe:    "<=",
}

// longestSign: of those that aren't a run, which alone are looked for byte by byte.
const longestSign = 2

// signAt: the longer ones are tried first, so that <= isn't taken for < and =.
func signAt(text string, at int) (api.Token, api.Fault) {
	for end := min(at+longestSign, len(text)); end > at; end-- {
		if kind := signKind(text[at:end]); kind != 0 {
			return api.Token{Kind: kind, At: at, End: end}, api.Fault{}
		}
	}
	return api.Token{}, api.Fault{Err: api.ErrByte, At: at}
}

// signKind: 0, if s isn't a sign.
func signKind(s string) int {
	for kind, sign := range signs {
		if sign == s {
			return kind
		}
	}
	return 0
}

// signOf: "", if the kind hasn't just one way to be written, or is none.
func signOf(kind int) string {
	if kind < 0 || kind >= len(signs) {
		return ""
	}
	return signs[kind]
}
