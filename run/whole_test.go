package run_test

import (
	"fmt"
	"maps"
	"slices"
	"strconv"
	"strings"
	"testing"

	"hearsay/api"
	"hearsay/clause"
	"hearsay/run"
	"hearsay/script"
	"hearsay/syntax"
	"hearsay/term"
)

// What the whole promises (T1 to T12), seen in what lines are told.

// groups: of each line that isn't blank what it is told.
func groups(told []string) [][]string {
	var out [][]string
	for _, l := range told {
		if strings.HasPrefix(l, "  ") {
			out[len(out)-1] = append(out[len(out)-1], l)
		} else {
			out = append(out, texts(l))
		}
	}
	return out
}

// lastOf: what the last of the lines is told.
func lastOf(lines ...string) []string {
	all := groups(run.Run("s", lined(lines...)))
	return all[len(all)-1]
}

func wantSame(t *testing.T, promise string, lines []string, got, want []string) {
	t.Helper()
	wantLines(t, promise, lined(lines...), got, want)
}

// naive: the least model, fact by text, with the round that finds it; and the number of rounds. Every instance of every clause is looked at in every round.
func naive(cs []api.Clause) (map[string]int, int) {
	consts := clause.Consts(cs)
	var all []api.Clause
	for _, c := range cs {
		all = append(all, instances(c, consts)...)
	}
	model := map[string]int{}
	for round := 1; ; round++ {
		var found []string
		for _, c := range all {
			if _, there := model[syntax.PrintAtom(c.Head)]; !there && holds(c, model) {
				found = append(found, syntax.PrintAtom(c.Head))
			}
		}
		if len(found) == 0 {
			return model, round
		}
		for _, f := range found {
			model[f] = round
		}
	}
}

// instances: with all values; those that aren't valid (a qualifier that is no principal) go.
func instances(c api.Clause, consts []api.Term) []api.Clause {
	vals := [][]api.Term{nil}
	for range clause.Vars(c) {
		var more [][]api.Term
		for _, l := range vals {
			for _, x := range consts {
				more = append(more, append(slices.Clone(l), x))
			}
		}
		vals = more
	}
	var out []api.Clause
	for _, l := range vals {
		if i := clause.Instance(c, l); clause.Check(i) == api.OK {
			out = append(out, i)
		}
	}
	return out
}

func holds(c api.Clause, model map[string]int) bool {
	for _, a := range c.Body {
		if _, there := model[syntax.PrintAtom(a)]; !there {
			return false
		}
	}
	for _, x := range c.Tests {
		if yes, known := term.Decide(x); !yes || !known {
			return false
		}
	}
	return true
}

// naiveAnswers: the lines of a query's answers.
func naiveAnswers(t *testing.T, model map[string]int, query string) []string {
	t.Helper()
	q, _ := syntax.Query(query)
	var l []api.Atom
	for f := range maps.Keys(model) {
		a, fault := syntax.Query(f + "?")
		if fault.Err != api.OK {
			t.Fatalf("T7: the fact %q isn't read: %v", f, fault)
		}
		if _, ok := term.Match(q, a, nil); ok {
			l = append(l, a)
		}
	}
	slices.SortFunc(l, term.CompareAtoms)
	var out []string
	for _, a := range l {
		out = append(out, "  "+syntax.PrintAtom(a))
	}
	return out
}

func isDeep(l string) bool { return strings.HasPrefix(l, "    ") }

// clausesAt: what the context's clauses are told to be behind these lines.
func clausesAt(t *testing.T, lines []string, who string) []api.Clause {
	t.Helper()
	look := mustPrint(t, api.Do{Kind: api.DoClauses, Who: who})
	told := lastOf(append(slices.Clone(lines), look)...)
	return clauses(t, strings.Join(told[1:], "\n"))
}

// TestAnswersOfQueries: T1, T3, T4: each query's answers, rounds and derivations, by the context's clauses as they are told; and the same answers asked backwards.
func TestAnswersOfQueries(t *testing.T) {
	c := newChosen(275)
	asked := 0
	for range 60 {
		lines := c.lines(40)
		told := groups(run.Run("s", lined(lines...)))
		for i, l := range lines {
			d, f := script.Read(l)
			if f.Err != api.OK || d.Kind != api.DoQuery || told[i][0] != "E103 0" && isRefused(told[i]) {
				continue
			}
			asked++
			cs := clausesAt(t, lines[:i], d.Who)
			model, rounds := naive(cs)
			if d.N < rounds {
				wantSame(t, "T3", lines[:i+1], told[i], texts("E103 0"))
				d.N = rounds
				told[i] = lastOf(append(slices.Clone(lines[:i]), mustPrint(t, d))...)
			}
			want := append(texts(fmt.Sprint("ok ", rounds)), naiveAnswers(t, model, d.Text)...)
			got := slices.DeleteFunc(slices.Clone(told[i]), isDeep)
			wantSame(t, "T1", lines[:i+1], got, want)
			wantSame(t, "T1", lines[:i+1], lastOf(append(slices.Clone(lines[:i]), mustPrint(t, api.Do{Kind: api.DoAsk, Who: d.Who, Text: d.Text}))...)[1:], want[1:])
			wantDerived(t, told[i][1:], cs, model)
		}
	}
	if asked < 60 {
		t.Errorf("only %d queries were asked", asked)
	}
}

// wantDerived: below each answer steps that follow from the clauses and from one another, the last of which says the answer.
func wantDerived(t *testing.T, told []string, cs []api.Clause, model map[string]int) {
	t.Helper()
	answer := ""
	var steps []api.Atom
	for i, l := range told {
		if !isDeep(l) {
			answer, steps = strings.TrimSpace(l), nil
			continue
		}
		steps = append(steps, stepOf(t, l, steps, cs))
		if i+1 == len(told) || !isDeep(told[i+1]) {
			if last := syntax.PrintAtom(steps[len(steps)-1]); last != answer || model[last] == 0 {
				t.Errorf("T4: the derivation of %q ends with %q", answer, last)
			}
		}
	}
}

// stepOf: the fact of a derivation's line; its rule is one of the clauses, and says it with some values with which its body is what the line names.
func stepOf(t *testing.T, line string, steps []api.Atom, cs []api.Clause) api.Atom {
	t.Helper()
	number, rest, _ := strings.Cut(strings.TrimSpace(line), ". ")
	said, rest, _ := strings.Cut(rest, " by ")
	at := strings.LastIndex(rest, ".") + 1
	rule, fault := syntax.Clause(rest[:at])
	fact, fault2 := syntax.Query(said + "?")
	if fault.Err != api.OK || fault2.Err != api.OK || number != strconv.Itoa(len(steps)) {
		t.Fatalf("T4: the line %q: %v, %v", line, fault, fault2)
	}
	if !slices.ContainsFunc(cs, func(c api.Clause) bool { return clause.Compare(c, rule) == 0 }) {
		t.Errorf("T4: the line %q names a rule that isn't there", line)
	}
	s, ok := term.Match(rule.Head, fact, nil)
	uses := strings.FieldsFunc(strings.TrimPrefix(rest[at:], " from"), func(r rune) bool { return r == ' ' || r == ',' })
	if len(uses) != len(rule.Body) {
		t.Fatalf("T4: the line %q names %d steps", line, len(uses))
	}
	for i, u := range uses {
		n, err := strconv.Atoi(u)
		if err != nil || n < 0 || n >= len(steps) || !ok {
			t.Fatalf("T4: the line %q isn't one of a derivation", line)
		}
		s, ok = term.Match(rule.Body[i], steps[n], s)
	}
	for _, x := range rule.Tests {
		yes, known := term.Decide(term.ApplyTest(s, x))
		ok = ok && yes && known
	}
	if !ok {
		t.Errorf("T4: the line %q doesn't follow", line)
	}
	return fact
}

// TestWhoSays: T5: what a context's clauses say by others it asserted itself, or they exported it.
func TestWhoSays(t *testing.T) {
	c := newChosen(276)
	quotes := 0
	for range 200 {
		lines := c.lines(60)
		told := groups(run.Run("s", lined(lines...)))
		said := map[string]bool{} // "who: clause", and ": clause" of what was exported, quoted
		for i, l := range lines {
			d, f := script.Read(l)
			if f.Err != api.OK || isRefused(told[i]) {
				continue
			}
			switch d.Kind {
			case api.DoAssert:
				for _, x := range clauses(t, d.Text) {
					said[d.Who+": "+syntax.Print(x)] = true
				}
			case api.DoExport:
				q, _ := clause.Quote(d.Who, clauses(t, d.Text)[0])
				said[": "+syntax.Print(q)] = true
			}
		}
		for _, who := range someWhos() {
			if told := lastOf(append(slices.Clone(lines), mustPrint(t, api.Do{Kind: api.DoClauses, Who: who}))...); !isRefused(told) {
				for _, l := range told[1:] {
					text := strings.TrimSpace(l)
					if said[": "+text] {
						quotes++
					} else if !said[who+": "+text] {
						t.Errorf("T5: %s has the clause %q", who, text)
					}
				}
			}
		}
	}
	if quotes < 20 {
		t.Errorf("only %d clauses were taken", quotes)
	}
}

// TestSpoiltMessages: T6: whatever byte is changed, or wherever it is cut, it is refused; mended it is taken.
func TestSpoiltMessages(t *testing.T) {
	start := texts("enroll ann", "enroll bob", "assert ann \"good(x).\"", "export ann \"good(x).\" 0")
	good := lastOf(start...)[0]
	length := 0
	for !isRefused(lastOf(append(slices.Clone(start), fmt.Sprint("cut 1 ", length+1))...)) {
		length++
	}
	for at := range length {
		lines := slices.Clone(start)
		for _, bits := range ints(1, 128, 255) {
			flip := fmt.Sprintf("flip 1 %d %d", at, bits)
			lines = append(lines, flip, "import bob 1", "clauses bob", flip)
		}
		all := groups(run.Run("s", lined(append(lines, fmt.Sprintf("copy 1\ncut 2 %d\nimport bob 2\nclauses bob\nimport bob 1\nclauses bob", at))...)))[len(start):]
		for i := range 3 {
			if x := all[4*i:]; x[0][0] != "ok" || !isRefused(x[1]) || len(x[2]) != 1 || x[3][0] != "ok" {
				t.Errorf("T6: with the byte %d changed %q is told", at, x[:4])
			}
		}
		if x := all[12:]; !isRefused(x[2]) || len(x[3]) != 1 || x[4][0] != good || len(x[5]) != 2 {
			t.Errorf("T6: cut at %d, and mended, %q is told", at, x)
		}
	}
}

// TestReadBack: T7: clauses that are told, asserted by another, are told alike; so are facts, as queries and as facts.
func TestReadBack(t *testing.T) {
	c := newChosen(277)
	for range 60 {
		lines := c.lines(40)
		for _, who := range texts("ann", "bob") {
			told := lastOf(append(slices.Clone(lines), "clauses "+who)...)
			if isRefused(told) || len(told) == 1 {
				continue
			}
			text := strings.Join(told[1:], " ")
			again := lastOf(append(slices.Clone(lines), "enroll dan", mustPrint(t, api.Do{Kind: api.DoAssert, Who: "dan", Text: text}), "clauses dan")...)
			wantSame(t, "T7", lines, again, told)
			answers := lastOf(append(slices.Clone(lines), "ask "+who+" \"W says p(X)?\"")...)
			for _, l := range answers[1:] {
				one := lastOf(append(slices.Clone(lines), mustPrint(t, api.Do{Kind: api.DoAsk, Who: who, Text: l + "?"}))...)
				wantSame(t, "T7", lines, one, texts("ok", l))
			}
		}
	}
}

// TestAnyOrder: T8: the same own clauses and certificates, by other ways: the same answers, derivations too.
func TestAnyOrder(t *testing.T) {
	c := newChosen(278)
	start := texts("enroll bob", "enroll ann", "assert ann \"p(a). p(b). q(X) :- p(X). e(a, b).\"", "export ann \"p(a).\" 0", "export ann \"p(b).\" 0", "export ann \"q(X) :- p(X).\" 0", "export ann \"e(a, b).\" 0")
	var own []string
	for range 6 {
		own = append(own, mustPrint(t, api.Do{Kind: api.DoAssert, Who: "bob", Text: one(c, clauseTexts()...)}))
	}
	noise := texts("assert bob \"p(\"", "query bob \"p(X)?\" 0", "import bob 99", "retract bob \"never.\"", "forget bob \"00\"", "copy 1", "ask bob \"q(X)?\"", "watch bob \"p(X)?\"", "crash bob 1000000", "forge \"x\"", "assert ann \"t.\"", "frob")
	asks := texts("query bob \"p(X)?\" 100", "query bob \"W says p(X)?\" 100", "query bob \"q(X)?\" 3", "query bob \"W says q(X)?\" 2", "query bob \"ok(X)?\" 100", "clauses bob", "redundant bob", "loss bob ann")
	for range 60 {
		var changes []string
		for n := range c.Intn(5) {
			changes = append(changes, fmt.Sprint("import bob ", n+1))
		}
		for range c.Intn(6) {
			changes = append(changes, one(c, own...))
		}
		plain := append(append(slices.Clone(start), changes...), asks...)
		c.Shuffle(len(changes), func(i, j int) { changes[i], changes[j] = changes[j], changes[i] })
		other := slices.Clone(start)
		for _, l := range changes {
			for c.Intn(2) == 0 {
				other = append(other, one(c, noise...))
			}
			other = append(other, l)
			if strings.HasPrefix(l, "assert") && c.Intn(3) == 0 {
				other = append(other, l)
			}
		}
		other = append(append(other, noise...), asks...)
		want, got := groups(run.Run("s", lined(plain...))), groups(run.Run("s", lined(other...)))
		for i, l := range asks {
			wantLines(t, "T8", l, got[len(got)-len(asks)+i], want[len(want)-len(asks)+i])
		}
	}
}

// TestMoreClauses: T9: no answer is lost.
func TestMoreClauses(t *testing.T) {
	c := newChosen(279)
	for range 200 {
		lines := texts("enroll bob")
		var last []string
		for range 8 {
			lines = append(lines, mustPrint(t, api.Do{Kind: api.DoAssert, Who: "bob", Text: one(c, clauseTexts()...)}))
			var all []string
			for _, q := range texts("W says p(X)?", "p(X)?", "W says q(X)?", "q(X)?", "ok(X)?", "t?") {
				told := lastOf(append(slices.Clone(lines), mustPrint(t, api.Do{Kind: api.DoAsk, Who: "bob", Text: q}))...)
				all = append(all, told[1:]...)
			}
			for _, l := range last {
				if !slices.Contains(all, l) {
					t.Errorf("T9: behind %q the answer %q is lost", lines, l)
				}
			}
			last = all
		}
	}
}

// TestBundlesForMore: T10: a bundle proves its fact to everyone who holds at least the policy.
func TestBundlesForMore(t *testing.T) {
	lines := texts("enroll ann", "enroll bob", "enroll cy", "assert ann \"good(x). good(y).\"", "export ann \"good(x).\" 0", "import bob 1", "assert bob \"may(X) :- ann says good(X). is(X) :- may(X), k(X). k(x). k(y).\"", "prove bob \"is(x)?\" 9")
	for _, c := range []struct {
		policy string
		told   []string
	}{
		{"may(X) :- ann says good(X). is(X) :- may(X), k(X). k(x).", texts("ok", "  is(x)")},
		{"is(X) :- may(X), k(X). k(x). k(z). may(X) :- ann says good(X). more(1). may(x) :- no.", texts("ok", "  is(x)")},
		{"is(X) :- may(X), k(X). k(y). may(X) :- ann says good(X).", texts("E127 0")},
		{"is(X) :- may(X), k(X). k(x). may(X) :- bob says good(X).", texts("E127 0")},
		{"is(x).", texts("E127 0")},
	} {
		wantSame(t, "T10", texts(c.policy), lastOf(append(slices.Clone(lines), mustPrint(t, api.Do{Kind: api.DoAssert, Who: "cy", Text: c.policy}), "show cy 2")...), c.told)
	}
}

// TestCrashes: T11: behind a crash the context is as it was behind so many of its changes as are told.
func TestCrashes(t *testing.T) {
	start := texts("enroll ann", "enroll bob", "assert ann \"p(a). q(X) :- p(X).\"", "export ann \"p(a).\" 0", "export ann \"q(X) :- p(X).\" 0")
	changes := texts("assert bob \"p(b).\"", "import bob 1", "assert bob \"q(X) :- ann says p(X).\"", "retract bob \"p(b).\"", "import bob 2", "assert bob \"ok(X) :- q(X).\"")
	whole := append(slices.Clone(start), changes...)
	counts := map[string]int{}
	for m := 0; len(counts) <= len(changes) && m < 2000; m++ {
		looks := texts("clauses bob", "ask bob \"W says q(X)?\"", "query bob \"q(X)?\" 9")
		all := groups(run.Run("s", lined(append(append(slices.Clone(whole), fmt.Sprint("crash bob ", m)), looks...)...)))
		left := all[len(whole)][0]
		counts[left]++
		n, _ := strconv.Atoi(strings.TrimPrefix(left, "ok "))
		want := groups(run.Run("s", lined(append(append(slices.Clone(start), changes[:n]...), looks...)...)))
		for i, l := range looks {
			wantLines(t, "T11", fmt.Sprint(l, " behind crash bob ", m), all[len(whole)+1+i], want[len(start)+n+i])
		}
	}
	if len(counts) != len(changes)+1 {
		t.Errorf("T11: the crashes left %v", counts)
	}
}

// TestNewsPutTogether: T12: what came wasn't there, what went was there, and all of it leads to the present answers.
func TestNewsPutTogether(t *testing.T) {
	c := newChosen(280)
	for range 60 {
		lines := texts("enroll bob", "enroll ann", "assert ann \"p(a). q(X) :- p(X).\"", "export ann \"p(a).\" 0", "export ann \"q(X) :- p(X).\" 0", mustPrint(t, api.Do{Kind: api.DoAssert, Who: "bob", Text: strings.Join(clauseTexts()[:c.Intn(9)], " ")}))
		query := one(c, "p(X)?", "q(X)?", "W says p(X)?", "W says q(X)?", "ok(X)?")
		ask := mustPrint(t, api.Do{Kind: api.DoAsk, Who: "bob", Text: query})
		held := lastOf(append(slices.Clone(lines), ask)...)[1:]
		lines = append(lines, mustPrint(t, api.Do{Kind: api.DoWatch, Who: "bob", Text: query}))
		for range 10 {
			for range c.Intn(4) {
				d := api.Do{Kind: one(c, api.DoAssert, api.DoRetract), Who: "bob", Text: one(c, clauseTexts()...)}
				lines = append(lines, one(c, mustPrint(t, d), mustPrint(t, d), fmt.Sprint("import bob ", 1+c.Intn(2))))
			}
			lines = append(lines, "news bob 1")
			for _, l := range lastOf(lines...)[1:] {
				atom, i := "  "+l[4:], slices.Index(held, "  "+l[4:])
				switch {
				case l[2] == '+' && i < 0:
					held = append(held, atom)
				case l[2] == '-' && i >= 0:
					held = slices.Delete(held, i, i+1)
				default:
					t.Errorf("T12: %q is told while there are %q", l, held)
				}
			}
			now := lastOf(append(slices.Clone(lines), ask)...)[1:]
			slices.Sort(held)
			slices.Sort(now)
			wantSame(t, "T12", lines, held, now)
		}
	}
}
