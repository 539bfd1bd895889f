package run_test

import (
	"strings"
	"testing"

	"hearsay/api"
	"hearsay/run"
)

// P26.4: no line that is told holds a line feed.

func wantNoLineFeed(t *testing.T, what any, told []string) {
	t.Helper()
	for _, l := range told {
		if strings.Contains(l, "\n") {
			t.Errorf("P26.4: %.300q tells the line %.300q", what, l)
		}
	}
}

// TestLineFeedsInQuotes: in principals and in arguments; they are told by their escapes.
func TestLineFeedsInQuotes(t *testing.T) {
	wantRun(t, "P26.4", `enroll "a\nb"
enroll "\x0a"
assert "a\nb" "p(\"x\\ny\"). q(X) :- \"\\n\" says p(X). p(\"\\x0a\")."
clauses "a\x0ab"
assert "\n" "p(\"l1\\nl2\\n\").
assert "\n" "p(\"l1\\nl2\\n\"). % so\n r."
export "\n" "p(\"l1\\x0al2\\n\")." 0
import "a\nb" 1
query "a\nb" "q(X)?" 9
ask "a\nb" "W says p(X)?"
watch "a\nb" "p(X)?"
retract "a\nb" "p(\"x\\ny\")."
news "a\nb" 1
why "a\nb" "q(\"l1\\nl2\\n\")?"
loss "a\nb" "\n"
redundant "\n"
prove "a\nb" "q(\"l1\\nl2\\n\")?" 9
show "a\nb" 2
forge "\n\n"
waiting`,
		"ok", "ok", "ok 3",
		"ok", `  p("\n").`, `  p("x\ny").`, `  q(V0) :- "\n" says p(V0).`,
		"E43 12", "ok 2", "ok 1 "+lineFeedId(t), "ok 1 "+lineFeedId(t),
		"ok 3", `  q("l1\nl2\n")`, `    0. "\n" says p("l1\nl2\n") by "\n" says p("l1\nl2\n").`, `    1. q("l1\nl2\n") by q(V0) :- "\n" says p(V0). from 0`,
		"ok", `  "\n" says p("l1\nl2\n")`,
		"ok 1", "ok 1",
		"ok", `  - p("x\ny")`,
		"ok", `  "\n" says p("l1\nl2\n").`, `  q(V0) :- "\n" says p(V0).`,
		"ok", `  "\n" says p("l1\nl2\n")`, `  q("l1\nl2\n")`,
		"ok", "ok 2",
		"ok", `  q("l1\nl2\n")`,
		"ok 3", "ok 2 3",
	)
}

// lineFeedId: that of the certificate by which a line feed says a fact with two of them.
func lineFeedId(t *testing.T) string {
	t.Helper()
	told := run.Run("s", "enroll \"\\n\"\nassert \"\\n\" \"p(\\\"l1\\\\nl2\\\\n\\\").\"\nexport \"\\n\" \"p(\\\"l1\\\\nl2\\\\n\\\").\" 0")
	return id.FindString(told[len(told)-1])
}

// TestLineFeedsAnywhere: in every field of what is told, where it means something and where it doesn't.
func TestLineFeedsAnywhere(t *testing.T) {
	lf := text("\n")
	atoms := []api.Atom{atom("p", lf), atom("p\n"), atom("\n", lf), saysAtom("a\nb\n", atom("p", lf, text("x\n"))), {By: api.Term{Kind: 9, S: "\n"}, Name: "p"}, atom("p", api.Term{Kind: api.KindVar, S: "\n"}), atom("p", api.Term{Kind: 7, S: "\n\n"})}
	var cs []api.Clause
	for _, a := range atoms {
		for _, b := range atoms {
			cs = append(cs, api.Clause{Head: a}, api.Clause{Head: a, Body: []api.Atom{b}}, api.Clause{Head: a, Tests: []api.Test{{Op: api.OpLt, L: lf, R: text("\n\n")}, {Op: api.OpNe, L: api.Term{Kind: 5, S: "\n"}}}})
		}
	}
	var steps []api.Step
	for i := range cs {
		steps = append(steps, api.Step{Rule: i, Vals: []api.Term{lf, lf}, Uses: ints(i)})
	}
	proofs := []api.Proof{{Rules: cs, Steps: steps}, {Rules: cs, Steps: steps[3:]}}
	for _, kind := range append(kinds(), noKinds()...) {
		for _, err := range []api.Errno{api.OK, api.ErrSyntax} {
			told := api.Told{Err: err, N: 10, At: 10, Atoms: atoms, Gone: atoms, Clauses: cs, Proofs: proofs, Nums: ints(10, 10), Id: api.Digest{10, 10}}
			d := api.Do{Kind: kind, Who: "\n", To: "\n", Text: "\n", Bytes: []byte("\n")}
			got := run.Tell(d, told)
			wantNoLineFeed(t, kind, got)
			wantLines(t, "P26.3", "line feeds", got, plainTell(d, told))
		}
	}
}

// TestLineFeedsOfScripts: nor in what lines tell whose bytes are any.
func TestLineFeedsOfScripts(t *testing.T) {
	for _, text := range allExamples() {
		wantNoLineFeed(t, text, run.Run("\n", exampleText(text)))
	}
	c := newChosen(264)
	for range 300 {
		text := c.script(30)
		wantNoLineFeed(t, text, run.Run("s", text))
	}
}
