package syntax_test

import (
	"math/rand"
	"slices"
	"strings"
	"testing"

	"hearsay/api"
	"hearsay/syntax"
	"hearsay/tokens"
)

// cut: the tokens of a text that has no fault there.
func cut(t *testing.T, text string) []api.Token {
	t.Helper()
	l, f := tokens.Cut(text, len(text))
	if f.Err != api.OK {
		t.Fatalf("Cut(%q): %v", text, f)
	}
	return l
}

// wantAsPlain: Program and Query, and Clause by what Program says, read a text as plainProgram and plainQuery do.
func wantAsPlain(t *testing.T, text string) {
	t.Helper()
	l := cut(t, text)
	cs, f := plainProgram(l, len(text))
	if got, g := syntax.Program(text); !sameClauses(got, cs) || g != f {
		t.Errorf("P5.1: Program(%q) is %+v, %v; want %+v, %v", text, got, g, cs, f)
	}
	switch {
	case f.Err != api.OK:
		wantNoClause(t, text, f.Err, f.At)
	case len(cs) != 1:
		wantNoClause(t, text, api.ErrOne, 0)
	default:
		wantClause(t, text, cs[0])
	}
	a, f := plainQuery(l, len(text))
	if got, g := syntax.Query(text); !sameAtom(got, a) || g != f {
		t.Errorf("P5.3: Query(%q) is %+v, %v; want %+v, %v", text, got, g, a, f)
	}
}

// eachKind: a token of each kind, as it is written.
func eachKind() []string {
	return []string{"p", "X", `"a-b"`, "5", "says", "(", ")", ",", ";", ".", ":-", "?", "=", "!=", "<", "<="}
}

// viable: whether some text of the symbol goes on from these tokens.
func viable(symbol int, l []api.Token) bool {
	stacks := []stack{{ahead: []int{symbol}}}
	for _, t := range l {
		stacks, _ = stepped(stacks, t.Kind)
	}
	return len(stacks) > 0
}

// goOn: calls with the text, and with each text that it becomes by at most most tokens, of which all but the last can stand there.
func goOn(t *testing.T, symbol int, text string, most int, with func(string)) {
	with(text)
	if most == 0 || !viable(symbol, cut(t, text)) {
		return
	}
	for _, s := range eachKind() {
		goOn(t, symbol, text+" "+s, most-1, with)
	}
}

// P5.1: at each place of the grammar every token, and the text's end: places that few tokens lead to, and those behind longer beginnings.
func TestEveryTokenAtEveryPlaceOfARule(t *testing.T) {
	for begin, most := range map[string]int{
		"":                             5,
		"p :-":                         5,
		"p(X, Y) :- q(X, Y),":          4,
		"p :- (":                       4,
		"p :- (q; r), (":               4,
		"p :- a; (b, (c,":              4,
		"p :- X says q(":               4,
		"ann says p(":                  4,
		"p :- q, 5 <":                  4,
		"p :- (q, ((X says r(a, 5), Y": 4,
		"p :- ((q))":                   4,
		"X says":                       4,
		`"x" says p :- "y" says`:       4,
	} {
		goOn(t, symRule, begin, most, func(text string) { wantAsPlain(t, text) })
	}
}

// P5.1: a rule's end is the next one's beginning.
func TestEveryTokenBehindARule(t *testing.T) {
	for _, begin := range []string{"p.", "p :- q.", "p. q(a) :- r(X), X = X.", "p :- (a; b); c."} {
		for _, s := range eachKind() {
			wantAsPlain(t, begin+" "+s)
			for _, s2 := range eachKind() {
				wantAsPlain(t, begin+" "+s+" "+s2)
			}
		}
	}
}

// P5.3: so for queries.
func TestEveryTokenAtEveryPlaceOfAQuery(t *testing.T) {
	for _, begin := range []string{"", "p", "X says p(", "p(X, a, ", `"" says p(5)`, "p?", "p(a)?"} {
		goOn(t, symQuery, begin, 4, func(text string) { wantAsPlain(t, text) })
	}
}

// picker: texts by chance, the same ones at every run.
type picker struct{ *rand.Rand }

func newPicker(seed int64) picker { return picker{rand.New(rand.NewSource(seed))} }

func (r picker) of(l ...string) string { return l[r.Intn(len(l))] }

func (r picker) list(most int, between string, one func() string) string {
	var l []string
	for range 1 + r.Intn(most) {
		l = append(l, one())
	}
	return strings.Join(l, " "+between+" ")
}

func (r picker) term() string {
	return r.of("X", "Y", "Z", "_", "_a", "X1", "X", "Y", "ann", "p", "5", "-7", `""`, `"says"`, `"x-y"`, `"ann"`)
}

func (r picker) atom() string {
	out := r.of("p", "q", "r", "path")
	if r.Intn(4) == 0 {
		out = r.of("ann", "X", "Y", "_", `"x-y"`, `"bob"`) + " says " + out
	}
	if r.Intn(3) > 0 {
		out += " ( " + r.list(3, ",", r.term) + " )"
	}
	return out
}

func (r picker) lit(depth int) string {
	switch k := r.Intn(7); {
	case k < 2 && depth > 0:
		return "( " + r.alt(depth-1) + " )"
	case k == 2:
		return r.term() + " " + r.of("=", "!=", "<", "<=") + " " + r.term()
	}
	return r.atom()
}

func (r picker) alt(depth int) string {
	return r.list(3, ";", func() string {
		return r.list(3, ",", func() string { return r.lit(depth) })
	})
}

// rule: most have a body that binds the variables, so that many are valid.
func (r picker) rule(depth int) string {
	switch r.Intn(8) {
	case 0:
		return r.atom() + " ."
	case 1, 2:
		return r.atom() + " :- " + r.alt(depth) + " ."
	}
	return r.of("p ( X )", "ann says p ( Y , X )", "p", "p ( Z , _a )") + " :- X says q ( Y , Z ) , r ( _a , X1 ) , ( " + r.alt(depth) + " ) ."
}

func (r picker) program() string {
	var l []string
	for range r.Intn(4) {
		l = append(l, r.rule(r.Intn(4)))
	}
	return strings.Join(l, " ")
}

// spoilt: the text with a few of its tokens taken out, put in or put in the place of others.
func (r picker) spoilt(text string) string {
	l := strings.Split(text, " ")
	for range 1 + r.Intn(2) {
		at := r.Intn(len(l))
		switch r.Intn(3) {
		case 0:
			l = slices.Delete(l, at, at+1)
		case 1:
			l = slices.Insert(l, at, r.of(eachKind()...))
		case 2:
			l[at] = r.of(eachKind()...)
		}
		if len(l) == 0 {
			return ""
		}
	}
	return strings.Join(l, " ")
}

// P5.1, P5.2, P5.3: texts of the grammar, and such as nearly are.
func TestTextsByChance(t *testing.T) {
	r := newPicker(5)
	valid, several := 0, 0
	for range 3000 {
		text := r.program()
		cs, f := syntax.Program(text)
		if f.Err == api.OK && len(cs) > 0 {
			valid++
		}
		if len(cs) > 3 {
			several++
		}
		wantAsPlain(t, text)
		if text != "" {
			wantAsPlain(t, r.spoilt(text))
		}
	}
	if valid < 800 || several < 200 {
		t.Errorf("of the texts only %d are valid, %d with several clauses", valid, several)
	}
	for range 3000 {
		text := r.atom() + " ?"
		wantAsPlain(t, text)
		wantAsPlain(t, r.spoilt(text))
	}
}
