package run_test

import (
	"fmt"
	"regexp"
	"strings"

	"hearsay/api"
	"hearsay/proof"
	"hearsay/script"
	"hearsay/syntax"
	"hearsay/world"
)

// What follows is chapter 26 by its words: all lines are read, then all steps are played, then all is told.

// plainBlank: blanks and a remark alone.
var plainBlank = regexp.MustCompile(`^[ \t\r]*(?:%[^\n]*)?$`)

// plainLines: cut at the line feeds; what stands behind the last one is a line, unless it is empty.
func plainLines(text string) []string {
	l := strings.Split(text, "\n")
	if l[len(l)-1] == "" {
		l = l[:len(l)-1]
	}
	return l
}

// plainLine: one that isn't blank: the place of its step among the steps, or why it says none.
type plainLine struct {
	fault api.Fault
	step  int
}

// plainRead: the lines that aren't blank, and the steps that they say.
func plainRead(text string) ([]plainLine, []api.Do) {
	var out []plainLine
	var steps []api.Do
	for _, l := range plainLines(text) {
		if plainBlank.MatchString(l) {
			continue
		}
		if len(out) >= 2000 {
			out = append(out, plainLine{fault: api.Fault{Err: 261}})
			continue
		}
		d, f := script.Read(l)
		out = append(out, plainLine{f, len(steps)})
		if f.Err == api.OK {
			steps = append(steps, d)
		}
	}
	return out, steps
}

func plainRun(secret, text string) []string {
	lines, steps := plainRead(text)
	told := world.Play([]byte(secret), steps)
	var out []string
	for _, l := range lines {
		if l.fault.Err != api.OK {
			out = append(out, fmt.Sprintf("E%d %d", l.fault.Err, l.fault.At))
		} else {
			out = append(out, plainTell(steps[l.step], told[l.step])...)
		}
	}
	return out
}

// plainTable: the chapter's: by the kind what stands in the first line, and what in the further ones.
func plainTable() map[int][2]string {
	return map[int][2]string{
		api.DoEnroll: {"", ""}, api.DoForget: {"", ""}, api.DoDrop: {"", ""}, api.DoSwap: {"", ""}, api.DoFlip: {"", ""}, api.DoCut: {"", ""},
		api.DoAssert: {"N", ""}, api.DoRetract: {"N", ""}, api.DoWatch: {"N", ""}, api.DoProve: {"N", ""}, api.DoCopy: {"N", ""}, api.DoForge: {"N", ""}, api.DoCrash: {"N", ""},
		api.DoExport: {"N ID", ""}, api.DoImport: {"N ID", ""},
		api.DoQuery: {"N", "Atoms Proofs"},
		api.DoAsk:   {"", "Atoms"}, api.DoLoss: {"", "Atoms"}, api.DoShow: {"", "Atoms"},
		api.DoNews: {"", "+Atoms -Gone"},
		api.DoWhy:  {"", "Clauses"}, api.DoClauses: {"", "Clauses"}, api.DoRedundant: {"", "Clauses"},
		api.DoWaiting: {"Nums", ""},
	}
}

func plainTell(d api.Do, t api.Told) []string {
	if t.Err != api.OK {
		return texts(fmt.Sprintf("E%d %d", t.Err, t.At))
	}
	row := plainTable()[d.Kind]
	return append(texts("ok"+plainFirst(row[0], t)), plainFurther(row[1], t)...)
}

func plainFirst(what string, t api.Told) string {
	switch what {
	case "N":
		return fmt.Sprintf(" %d", t.N)
	case "N ID":
		return fmt.Sprintf(" %d %x", t.N, t.Id)
	case "Nums":
		out := ""
		for _, n := range t.Nums {
			out += fmt.Sprintf(" %d", n)
		}
		return out
	}
	return ""
}

func plainFurther(what string, t api.Told) []string {
	var out []string
	switch what {
	case "Atoms Proofs":
		for i, a := range t.Atoms {
			out = append(out, "  "+syntax.PrintAtom(a))
			if i < len(t.Proofs) {
				out = append(out, plainProof(t.Proofs[i])...)
			}
		}
	case "Atoms":
		out = plainAtoms("", t.Atoms)
	case "+Atoms -Gone":
		out = append(plainAtoms("+ ", t.Atoms), plainAtoms("- ", t.Gone)...)
	case "Clauses":
		for _, c := range t.Clauses {
			out = append(out, "  "+syntax.Print(c))
		}
	}
	return out
}

func plainAtoms(ahead string, l []api.Atom) []string {
	var out []string
	for _, a := range l {
		out = append(out, "  "+ahead+syntax.PrintAtom(a))
	}
	return out
}

// plainProof: of each step its number, its fact, its rule, what it uses.
func plainProof(p api.Proof) []string {
	var out []string
	for i, f := range proof.Facts(p) {
		s := p.Steps[i]
		rule := ""
		if s.Rule >= 0 && s.Rule < len(p.Rules) {
			rule = syntax.Print(p.Rules[s.Rule])
		}
		line := fmt.Sprintf("    %d. %s by %s", i, plainOr(syntax.PrintAtom(f)), plainOr(rule))
		if len(s.Uses) > 0 {
			line += " from " + strings.ReplaceAll(strings.Trim(fmt.Sprint(s.Uses), "[]"), " ", ", ")
		}
		out = append(out, line)
	}
	return out
}

func plainOr(text string) string {
	if text == "" {
		return "?"
	}
	return text
}
