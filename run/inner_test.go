package run

import (
	"slices"
	"testing"

	"hearsay/api"
)

// What no call shows: the tellers, and that all is told through them.

// counter: a teller of another kind.
type counter struct {
	lines int
	last  string
}

func (c *counter) line(text string) {
	c.lines++
	c.last = text
}

func TestSheet(t *testing.T) {
	var s sheet
	var to teller = &s
	for _, l := range []string{"a", "", "  b"} {
		to.line(l)
	}
	if !slices.Equal(s.lines, []string{"a", "", "  b"}) {
		t.Errorf("Ways: the sheet has %q", s.lines)
	}
}

func TestMargin(t *testing.T) {
	var s sheet
	var to teller = margin{margin{&s, "1"}, "2"}
	to.line("x")
	to.line("")
	s.line("y")
	if !slices.Equal(s.lines, []string{"12x", "12", "y"}) {
		t.Errorf("Ways: the sheet has %q", s.lines)
	}
}

// TestAllIsToldThroughTheInterface: refusals, atoms, clauses and derivations come to any teller.
func TestAllIsToldThroughTheInterface(t *testing.T) {
	p := api.Atom{Name: "p"}
	c := api.Clause{Head: p}
	told := api.Told{N: 7, Atoms: []api.Atom{p, p}, Gone: []api.Atom{p}, Clauses: []api.Clause{c, c, c}, Proofs: []api.Proof{{Rules: []api.Clause{c}, Steps: []api.Step{{}, {}}}}, Nums: []int{4}}
	for _, x := range []struct {
		kind  int
		lines int
		last  string
	}{
		{api.DoEnroll, 1, "ok"}, {api.DoCopy, 1, "ok 7"}, {api.DoWaiting, 1, "ok 4"}, {api.DoQuery, 5, "  p"}, {api.DoAsk, 3, "  p"}, {api.DoNews, 4, "  - p"}, {api.DoClauses, 4, "  p."}, {99, 1, "ok"},
	} {
		var to counter
		tellStep(&to, x.kind, told)
		if to.lines != x.lines || to.last != x.last {
			t.Errorf("Ways: of the kind %d %d lines are told, the last one %q", x.kind, to.lines, to.last)
		}
		to = counter{}
		tellStep(&to, x.kind, api.Told{Err: api.ErrSyntax, At: 7, Atoms: told.Atoms})
		if to.lines != 1 || to.last != "E51 7" {
			t.Errorf("Ways: a refusal tells %d lines, the last one %q", to.lines, to.last)
		}
	}
	var to counter
	tellAnswers(&to, told.Atoms[:1], told.Proofs)
	if to.lines != 3 || to.last != "  1. p by p." {
		t.Errorf("Ways: of a derivation %d lines are told, the last one %q", to.lines, to.last)
	}
}
