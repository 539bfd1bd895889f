package run

import (
	"strconv"
	"strings"

	"hearsay/api"
	"hearsay/digest"
	"hearsay/proof"
	"hearsay/script"
	"hearsay/syntax"
)

// inward: what stands ahead of each further line; ahead of a derivation's it stands twice.
const inward = "  "

// tellStep: what a step of this kind answered.
func tellStep(to teller, kind int, t api.Told) {
	if t.Err != api.OK {
		tellRefusal(to, api.Fault{Err: t.Err, At: t.At})
		return
	}
	to.line(strings.Join(firstWords(kind, t), " "))
	tellFurther(margin{to, inward}, kind, t)
}

func tellRefusal(to teller, f api.Fault) {
	to.line("E" + strconv.Itoa(int(f.Err)) + " " + strconv.Itoa(f.At))
}

// firstWords: of the first line of a step that was done.
func firstWords(kind int, t api.Told) []string {
	words := []string{"ok"}
	switch kind {
	case api.DoAssert, api.DoRetract, api.DoWatch, api.DoProve, api.DoCopy, api.DoForge, api.DoCrash, api.DoQuery:
		return append(words, strconv.Itoa(t.N))
	case api.DoExport, api.DoImport:
		return append(words, strconv.Itoa(t.N), digest.Hex(t.Id))
	case api.DoWaiting:
		for _, n := range t.Nums {
			words = append(words, strconv.Itoa(n))
		}
	}
	return words
}

// tellFurther: what stands below the first line.
func tellFurther(to teller, kind int, t api.Told) {
	switch kind {
	case api.DoQuery:
		tellAnswers(to, t.Atoms, t.Proofs)
	case api.DoAsk, api.DoLoss, api.DoShow:
		tellAtoms(to, t.Atoms)
	case api.DoNews:
		tellAtoms(margin{to, "+ "}, t.Atoms)
		tellAtoms(margin{to, "- "}, t.Gone)
	case api.DoWhy, api.DoClauses, api.DoRedundant:
		tellClauses(to, t.Clauses)
	}
}

// tellAnswers: each atom, and behind it its derivation, if there is one.
func tellAnswers(to teller, atoms []api.Atom, proofs []api.Proof) {
	for i, a := range atoms {
		tellAtom(to, a)
		if i < len(proofs) {
			tellProof(margin{to, inward}, proofs[i])
		}
	}
}

func tellAtoms(to teller, atoms []api.Atom) {
	for _, a := range atoms {
		tellAtom(to, a)
	}
}

func tellAtom(to teller, a api.Atom) { to.line(syntax.PrintAtom(a)) }

func tellClauses(to teller, clauses []api.Clause) {
	for _, c := range clauses {
		to.line(syntax.Print(c))
	}
}

// tellProof: a derivation's text is cut as a script's is: its last line feed begins no line.
func tellProof(to teller, p api.Proof) {
	for _, line := range script.Lines(proof.Text(p)) {
		to.line(line)
	}
}
