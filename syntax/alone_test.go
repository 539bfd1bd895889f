package syntax_test

import (
	"fmt"
	"strconv"
	"strings"
	"testing"

	"hearsay/api"
	"hearsay/syntax"
	"hearsay/tokens"
)

// laid: the tokens as a text, with a beginning, something between each two, and an end; and their places there.
func laid(l []api.Token, spell func(api.Token) string, between func() string) (string, []int) {
	text := between()
	var places []int
	for _, t := range l {
		places = append(places, len(text))
		text += spell(t) + between()
	}
	return text, append(places, len(text))
}

func spelled(t api.Token) string {
	s, _ := tokens.Spell(t)
	return s
}

// wantMoved: the two texts say the same; a fault at one of the first's tokens, or at its end, stands at the same one of the second's.
func wantMoved(t *testing.T, text, other string, places []int) {
	t.Helper()
	l := cut(t, text)
	moved := func(f api.Fault) api.Fault {
		for i, token := range l {
			if f.Err != api.OK && token.At == f.At {
				return fault(f.Err, places[i])
			}
		}
		if f.Err == api.ErrSyntax {
			return fault(f.Err, places[len(l)])
		}
		return f
	}
	cs, f := syntax.Program(text)
	if got, g := syntax.Program(other); !sameClauses(got, cs) || g != moved(f) {
		t.Errorf("P5.8: Program(%q) is %+v, %v; of %q it is %+v, %v", other, got, g, text, cs, f)
	}
	c, f := syntax.Clause(text)
	if f.Err != api.ErrOne {
		f = moved(f)
	}
	if got, g := syntax.Clause(other); !same(got, c) || g != f {
		t.Errorf("P5.8: Clause(%q) is %+v, %v; of %q it is %+v, %v", other, got, g, text, c, f)
	}
	a, f := syntax.Query(text)
	if got, g := syntax.Query(other); !sameAtom(got, a) || g != moved(f) {
		t.Errorf("P5.8: Query(%q) is %+v, %v; of %q it is %+v, %v", other, got, g, text, a, f)
	}
}

// someTexts: programs and queries, of the grammar and not.
func someTexts(r picker) []string {
	out := []string{"", "p", "p.", "p?", "p :- X.", "p(X).", "p :- q. p(X)", "p :- (q; r(_, X)), X = X.", "p :- " + strings.Repeat("( ", 17)}
	for range 500 {
		text := r.rule(1) + " " + r.program()
		out = append(out, text, r.spoilt(text), r.atom()+"?", r.spoilt(r.atom()+" ?"))
	}
	return out
}

// P5.8: blanks and remarks, and how a quoted text is written, change nothing but places.
func TestTokensAlone(t *testing.T) {
	r := newPicker(8)
	between := func() string { return r.of(" ", "  ", "\n", "\t", "\r\n", " % so.\n", "%(\n", " %\"\n\n") }
	escaped := func(t api.Token) string {
		if t.Kind != api.TokText {
			return spelled(t)
		}
		s := `"`
		for i := range len(t.Text) {
			s += fmt.Sprintf(r.of(`\x%02x`, `\x%02X`), t.Text[i])
		}
		return s + `"`
	}
	for _, text := range someTexts(r) {
		l := cut(t, text)
		other, places := laid(l, spelled, between)
		wantMoved(t, text, other, places)
		other, places = laid(l, escaped, between)
		wantMoved(t, text, other, places)
		joined, _ := tokens.Join(l)
		places = nil
		for _, token := range cut(t, joined) {
			places = append(places, token.At)
		}
		wantMoved(t, text, joined, append(places, len(joined)))
	}
}

// P5.8: names of variables may be others, as long as those that are one stay one; _ may have a name of its own each time.
func TestNamesOfVariablesDontMatter(t *testing.T) {
	r := newPicker(9)
	blank := func() string { return " " }
	swap := map[string]string{"X": "Y", "Y": "_0", "Z": "X", "_a": "Za", "X1": "V0", "_": "_"}
	fresh := 0
	ways := []func(name string) string{
		func(name string) string { return swap[name] },
		func(name string) string { return name + name + "_" + name },
		func(name string) string {
			if name != "_" {
				return name
			}
			fresh++
			return "New" + strconv.Itoa(fresh)
		},
	}
	for _, text := range someTexts(r) {
		for i, way := range ways {
			if i == 1 && strings.Contains(text, "_ ") {
				continue // _ would become a name, and one variable
			}
			renamed := func(t api.Token) string {
				if t.Kind == api.TokVar {
					return way(t.Text)
				}
				return spelled(t)
			}
			other, places := laid(cut(t, text), renamed, blank)
			wantMoved(t, text, other, places)
		}
	}
}

// P5.8: as long as the text isn't too long.
func TestBlanksMayMakeATextTooLong(t *testing.T) {
	wantClause(t, "p .", rule(atom("p")))
	wantNoClause(t, "p"+blanks(32767)+".", api.ErrTextLong, 0)
	wantQuery(t, "p ?", atom("p"))
	wantNoQuery(t, "p"+blanks(32767)+"?", api.ErrTextLong, 0)
}
