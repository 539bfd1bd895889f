package tokens

import (
	"strconv"

	"hearsay/api"
)

// Spell: the token's spelling: a text that Cut reads as this one token (places aside), a quoted text as Quote writes it; false if there is none.
func Spell(t api.Token) (string, bool) {
	var s string
	var ok bool
	switch t.Kind {
	case api.TokWord:
		s, ok = t.Text, Word(t.Text) && t.N == 0
	case api.TokVar:
		s, ok = t.Text, variable(t.Text) && t.N == 0
	case api.TokText:
		s, ok = Quote(t.Text), t.N == 0
	case api.TokNum:
		s, ok = strconv.Itoa(t.N), t.Text == ""
	default:
		s = signOf(t.Kind)
		ok = s != "" && t.Text == "" && t.N == 0
	}
	if !ok {
		return "", false
	}
	return s, true
}

// Word: is s a word that may stand bare: a small letter, then letters, digits and underscores, not 'says'? Its length isn't looked at.
func Word(s string) bool {
	return s != "" && smallLetter(s[0]) && runEnd(s, 0) == len(s) && s != signs[api.TokSays]
}

func variable(s string) bool {
	return s != "" && beginsVariable(s[0]) && runEnd(s, 0) == len(s)
}

// Join: the tokens' spellings, a blank between two that would else be read otherwise; false if one has none.
func Join(l []api.Token) (string, bool) {
	var out []byte
	for i, t := range l {
		s, ok := Spell(t)
		if !ok {
			return "", false
		}
		if i > 0 && growTogether(l[i-1], t) {
			out = append(out, ' ')
		}
		out = append(out, s...)
	}
	return string(out), true
}

// growTogether: whether the spellings of a and b, with nothing between them, would be read otherwise than as these two.
func growTogether(a, b api.Token) bool {
	switch b.Kind {
	case api.TokNum:
		if b.N < 0 {
			return false // a minus sign is part of no run
		}
		fallthrough
	case api.TokWord, api.TokVar, api.TokSays:
		return endsInRun(a)
	case api.TokEq:
		return a.Kind == api.TokLt
	}
	return false
}

func endsInRun(t api.Token) bool {
	switch t.Kind {
	case api.TokWord, api.TokVar, api.TokSays, api.TokNum:
		return true
	}
	return false
}
