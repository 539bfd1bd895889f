package proof

import (
	"strconv"
	"strings"

	"hearsay/api"
	"hearsay/syntax"
)

// noText: what is told in the place of what has no text.
const noText = "?"

// Text: a line a step: its number, its fact, its rule, the steps that it uses.
func Text(p api.Proof) string {
	var lines strings.Builder
	for i, s := range p.Steps {
		lines.WriteString(strconv.Itoa(i))
		lines.WriteString(". ")
		lines.WriteString(orNoText(syntax.PrintAtom(factOf(p.Rules, s))))
		lines.WriteString(" by ")
		lines.WriteString(orNoText(ruleText(p.Rules, s.Rule)))
		lines.WriteString(usesText(s.Uses))
		lines.WriteByte('\n')
	}
	return lines.String()
}

func ruleText(rules []api.Clause, place int) string {
	if !isPlace(place, len(rules)) {
		return ""
	}
	return syntax.Print(rules[place])
}

func usesText(uses []int) string {
	if len(uses) == 0 {
		return ""
	}
	numbers := make([]string, len(uses))
	for i, u := range uses {
		numbers[i] = strconv.Itoa(u)
	}
	return " from " + strings.Join(numbers, ", ")
}

func orNoText(s string) string {
	if s == "" {
		return noText
	}
	return s
}

// textOf: a text that no other atom has, whatever atoms they are. What PrintAtom gives wouldn't do: all atoms that aren't valid have one text there, the empty one.
func textOf(a api.Atom) string {
	b := withText(nil, a.Name)
	b = withTerm(b, a.By)
	for _, t := range a.Args {
		b = withTerm(b, t)
	}
	return string(b)
}

// withTerm: b, and behind it the term so that its end is seen.
func withTerm(b []byte, t api.Term) []byte {
	b = withNumber(b, t.Kind)
	b = withNumber(b, t.N)
	return withText(b, t.S)
}

func withText(b []byte, s string) []byte { return append(withNumber(b, len(s)), s...) }

func withNumber(b []byte, n int) []byte { return append(strconv.AppendInt(b, int64(n), 10), ' ') }
