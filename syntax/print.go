package syntax

import (
	"strconv"
	"strings"

	"hearsay/api"
	"hearsay/clause"
	"hearsay/term"
	"hearsay/tokens"
)

const comma = ", "

// PrintTerm: the term's text; "" for what is neither a constant nor a variable.
func PrintTerm(t api.Term) string {
	switch {
	case term.Variable(t):
		return "V" + strconv.Itoa(t.N)
	case !term.Const(t):
		return ""
	case t.Kind == api.KindNum:
		return strconv.Itoa(t.N)
	case tokens.Word(t.S):
		return t.S
	}
	return tokens.Quote(t.S)
}

// PrintAtom: the atom's text; "" if it isn't valid.
func PrintAtom(a api.Atom) string {
	if term.CheckAtom(a) != api.OK {
		return ""
	}
	out := a.Name
	if a.By.Kind != api.KindNone {
		out = PrintTerm(a.By) + " says " + out
	}
	if len(a.Args) == 0 {
		return out
	}
	var args []string
	for _, t := range a.Args {
		args = append(args, PrintTerm(t))
	}
	return out + "(" + strings.Join(args, comma) + ")"
}

// Print: the clause's text; "" if it isn't valid.
func Print(c api.Clause) string {
	if clause.Check(c) != api.OK {
		return ""
	}
	var body []string
	for _, a := range c.Body {
		body = append(body, PrintAtom(a))
	}
	for _, t := range c.Tests {
		body = append(body, printTest(t))
	}
	out := PrintAtom(c.Head)
	if len(body) > 0 {
		out += " :- " + strings.Join(body, comma)
	}
	return out + "."
}

func printTest(t api.Test) string {
	return PrintTerm(t.L) + " " + signOf(t.Op) + " " + PrintTerm(t.R)
}

// PrintQuery: the query's text; "" if the atom isn't valid.
func PrintQuery(a api.Atom) string {
	if term.CheckAtom(a) != api.OK {
		return ""
	}
	return PrintAtom(a) + "?"
}

// PrintAll: the clauses' texts, a line each; those that aren't valid are left out.
func PrintAll(cs []api.Clause) string {
	var out strings.Builder
	for _, c := range cs {
		if text := Print(c); text != "" {
			out.WriteString(text)
			out.WriteByte('\n')
		}
	}
	return out.String()
}
