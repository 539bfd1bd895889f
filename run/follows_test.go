package run_test

import (
	"slices"
	"strings"
	"testing"

	"hearsay/api"
	"hearsay/run"
	"hearsay/script"
	"hearsay/world"
)

// P26.5: what follows.

// toldOf: what each line is told, none of which is blank; as Run tells all of them.
func toldOf(t *testing.T, lines []string) [][]string {
	t.Helper()
	var out [][]string
	read, steps := plainRead(lined(lines...))
	told := world.Play([]byte("s"), steps)
	for _, l := range read {
		if l.fault.Err != api.OK {
			out = append(out, plainTell(api.Do{}, api.Told{Err: l.fault.Err, At: l.fault.At}))
		} else {
			out = append(out, plainTell(steps[l.step], told[l.step]))
		}
	}
	wantRun(t, "P26.5", lined(lines...), slices.Concat(out...)...)
	return out
}

// looks: the kinds of lines that change nothing.
func looks() []int {
	return ints(api.DoQuery, api.DoAsk, api.DoWhy, api.DoLoss, api.DoShow, api.DoClauses, api.DoWaiting, api.DoRedundant)
}

func isLook(line string) bool {
	d, f := script.Read(line)
	return f.Err == api.OK && slices.Contains(looks(), d.Kind)
}

func isRefused(told []string) bool { return strings.HasPrefix(told[0], "E") }

// wantWithout: without the lines that may go the others tell the same.
func wantWithout(t *testing.T, lines []string, told [][]string, goes func(i int) bool) {
	t.Helper()
	var left []string
	var want []string
	for i, l := range lines {
		if !goes(i) {
			left = append(left, l)
			want = append(want, told[i]...)
		}
	}
	wantRun(t, "P26.5", lined(left...), want...)
}

// manyScripts: the chapter's examples, and others by chance.
func manyScripts(seed int64, n int) [][]string {
	var out [][]string
	for _, text := range allExamples() {
		out = append(out, strings.Split(strings.TrimSpace(exampleText(text)), "\n"))
		out[len(out)-1] = slices.DeleteFunc(out[len(out)-1], func(l string) bool { return l == "" })
	}
	c := newChosen(seed)
	for range n {
		out = append(out, c.lines(one(c, 10, 30, 60)))
	}
	return out
}

// TestWithoutLooks: all of them left out, each kind alone, and each line alone.
func TestWithoutLooks(t *testing.T) {
	c := newChosen(265)
	for _, lines := range manyScripts(266, 60) {
		told := toldOf(t, lines)
		wantWithout(t, lines, told, func(i int) bool { return isLook(lines[i]) })
		wantWithout(t, lines, told, func(i int) bool { return isLook(lines[i]) && c.Intn(2) == 0 })
		for _, kind := range looks() {
			wantWithout(t, lines, told, func(i int) bool {
				d, _ := script.Read(lines[i])
				return d.Kind == kind
			})
		}
		for i := range lines {
			if isLook(lines[i]) && c.Intn(4) == 0 {
				wantWithout(t, lines, told, func(j int) bool { return i == j })
			}
		}
	}
}

// TestWithMoreLooks: looks put in anywhere change nothing for the others.
func TestWithMoreLooks(t *testing.T) {
	c := newChosen(267)
	some := texts(`query ann "p(X)?" 9`, `query bob "W says p(X)?" 1`, `ask ann "ok(X)?"`, `ask bob "p("`, `why ann "p(a)?"`, `loss bob ann`, `show bob 1`, `show ann 2`, `clauses ann`, `clauses zoe`, `waiting`, `redundant ann`, `redundant bob`)
	for _, lines := range manyScripts(268, 40) {
		told := toldOf(t, lines)
		var more []string
		var old []bool
		for _, l := range lines {
			for c.Intn(2) == 0 {
				more, old = append(more, one(c, some...)), append(old, false)
			}
			more, old = append(more, l), append(old, true)
		}
		all := toldOf(t, more)
		i := 0
		for j, l := range more {
			if old[j] {
				wantLines(t, "P26.5", l, all[j], told[i])
				i++
			}
		}
	}
}

// TestAtMostMaxLines: looks change nothing where all lines are played; where there are too many they take the places of others.
func TestAtMostMaxLines(t *testing.T) {
	look := "waiting\nclauses ann\n"
	text := "enroll ann\n" + strings.Repeat(look, (api.MaxLines-4)/2) + "assert ann \"p.\"\nask ann \"p?\"\nassert ann \"q.\"\n"
	got := run.Run("s", text)
	wantLines(t, "P26.5", text, got[len(got)-4:], texts("ok 1", "ok", "  p", "ok 1"))
	wantRun(t, "P26.5", strings.ReplaceAll(text, look, ""), "ok", "ok 1", "ok", "  p", "ok 1")
	got = run.Run("s", "waiting\n"+text)
	wantLines(t, "P26.5", text, got[len(got)-4:], texts("ok 1", "ok", "  p", "E261 0"))
	got = run.Run("s", "frob\n\n%\n!\n"+text)
	wantLines(t, "P26.5", text, got[len(got)-3:], texts("ok 1", "E261 0", "E261 0"))
}

// TestWithoutRefused: nor does a line that is told an error.
func TestWithoutRefused(t *testing.T) {
	for _, lines := range manyScripts(269, 60) {
		told := toldOf(t, lines)
		wantWithout(t, lines, told, func(i int) bool { return isRefused(told[i]) })
		wantWithout(t, lines, told, func(i int) bool { return isRefused(told[i]) || isLook(lines[i]) })
	}
}

// TestBlankLinesAndRemarks: texts that differ in these alone tell the same.
func TestBlankLinesAndRemarks(t *testing.T) {
	c := newChosen(270)
	for _, lines := range manyScripts(271, 60) {
		want := run.Run("s", lined(lines...))
		for range 5 {
			wantRun(t, "P26.5", c.dressed(lines), want...)
		}
	}
	for _, text := range texts(
		"enroll ann\nassert ann \"p. q.\"\nclauses ann\nfrob",
		"enroll ann%\nassert ann \"p. q.\" %q\nclauses ann %\"\nfrob % x",
		"\n\n% one\nenroll   ann\n\t\nassert\tann\t\"p. q.\"\r\n  clauses ann % clauses bob\n%\nfrob !\n",
		"\r\nenroll ann\r\nassert ann \"p. q.\"\r\nclauses ann\r\nfrob\r",
		`enroll "ann"`+"\n"+`assert "\x61nn" "p.\x20q."`+"\n"+`clauses"ann"`+"\nfrob ann",
	) {
		want := texts("ok", "ok 2", "ok", "  p.", "  q.", "E252 0")
		if strings.Contains(text, "!") {
			want[5] = "E42 5"
		}
		wantRun(t, "P26.5", text, want...)
	}
}

// TestRemarksInTexts: a remark in a step's own text says nothing either.
func TestRemarksInTexts(t *testing.T) {
	wantRun(t, "P26.5", `enroll ann
assert ann "p. % q. \nr. % s."
clauses ann
ask ann "p % X\n ?"
assert ann "% nothing"
assert ann ""`, "ok", "ok 2", "ok", "  p.", "  r.", "ok", "  p", "ok 0", "ok 0")
}

// TestFrontsOfTexts: what a text's first lines tell is what they tell alone.
func TestFrontsOfTexts(t *testing.T) {
	for _, lines := range manyScripts(272, 20) {
		whole := run.Run("s", lined(lines...))
		n := 0
		for i := range lines {
			got := run.Run("s", lined(lines[:i+1]...))
			if len(got) <= n || len(got) > len(whole) {
				t.Fatalf("P26.5: of %d lines %d are told, of one fewer %d", i+1, len(got), n)
			}
			wantLines(t, "P26.5", lines[i], got, whole[:len(got)])
			n = len(got)
		}
	}
}

// TestFirstAndFurtherLines: no line that isn't blank tells nothing; what isn't a refusal begins with ok, and each further line with two blanks.
func TestFirstAndFurtherLines(t *testing.T) {
	for _, lines := range manyScripts(273, 60) {
		got := run.Run("s", lined(lines...))
		n := 0
		for _, l := range got {
			switch {
			case strings.HasPrefix(l, "ok"), strings.HasPrefix(l, "E"):
				n++
			case !strings.HasPrefix(l, "  "):
				t.Errorf("P26.3: the line %q is told", l)
			}
		}
		if n != len(lines) {
			t.Errorf("P26.1: of %d lines %d are told", len(lines), n)
		}
	}
}
