package run_test

import (
	"math"
	"regexp"
	"slices"
	"strings"
	"testing"

	"hearsay/api"
	"hearsay/run"
	"hearsay/syntax"
)

const (
	greatestInt = math.MaxInt
	leastInt    = math.MinInt
)

func texts(l ...string) []string { return l }

func ints(l ...int) []int { return l }

// lined: lines as one text, each with its line feed.
func lined(lines ...string) string {
	var b strings.Builder
	for _, l := range lines {
		b.WriteString(l)
		b.WriteByte('\n')
	}
	return b.String()
}

// cut: a list as it is told where it is long.
func cut(l []string) string {
	const most = 40
	if len(l) > most {
		return strings.Join(l[:most], "\n\t") + "\n\t.."
	}
	return strings.Join(l, "\n\t")
}

func wantLines(t *testing.T, promise, what string, got, want []string) {
	t.Helper()
	if slices.Equal(got, want) {
		return
	}
	for i := range min(len(got), len(want)) {
		if got[i] != want[i] {
			t.Errorf("%s: %.300q: line %d is %.200q, want %.200q", promise, what, i, got[i], want[i])
			return
		}
	}
	t.Errorf("%s: %.300q tells %d lines, want %d:\n\t%.2000s\nwant\n\t%.2000s", promise, what, len(got), len(want), cut(got), cut(want))
}

func wantRun(t *testing.T, promise, text string, want ...string) {
	t.Helper()
	wantLines(t, promise, text, run.Run("s", text), want)
}

func wantTell(t *testing.T, promise string, d api.Do, x api.Told, want ...string) {
	t.Helper()
	if got := run.Tell(d, x); !slices.Equal(got, want) {
		t.Errorf("%s: Tell of kind %d is\n\t%.2000s\nwant\n\t%.2000s\nof %.500v", promise, d.Kind, cut(got), cut(want), x)
	}
}

var id = regexp.MustCompile("[0-9a-f]{64}")

// withoutIds: each id is ID.
func withoutIds(l []string) []string {
	var out []string
	for _, s := range l {
		out = append(out, id.ReplaceAllString(s, "ID"))
	}
	return out
}

// said: a line, and what it is told.
type said struct {
	line string
	told []string
}

// example: in a text a line's told ones stand below it, each behind '> '.
func example(text string) []said {
	var out []said
	for _, l := range strings.Split(strings.Trim(text, "\n"), "\n") {
		if told, ok := strings.CutPrefix(l, "> "); ok {
			last := &out[len(out)-1]
			last.told = append(last.told, told)
		} else {
			out = append(out, said{line: l})
		}
	}
	return out
}

// wantExample: line by line: behind each line all told ones up to there, and no more.
func wantExample(t *testing.T, text string) {
	t.Helper()
	played := ""
	var want []string
	for _, x := range example(text) {
		played += x.line + "\n"
		want = append(want, x.told...)
		got := withoutIds(run.Run("s", played))
		if !slices.Equal(got, want) {
			t.Fatalf("%q tells\n\t%s\nwant\n\t%s", x.line, cut(got[min(len(got), len(want)-len(x.told)):]), cut(x.told))
		}
	}
}

// Things to be told.

func num(n int) api.Term { return api.Term{Kind: api.KindNum, N: n} }

func text(s string) api.Term { return api.Term{Kind: api.KindText, S: s} }

func variable(n int) api.Term { return api.Term{Kind: api.KindVar, N: n} }

func atom(name string, args ...api.Term) api.Atom { return api.Atom{Name: name, Args: args} }

func saysAtom(by string, a api.Atom) api.Atom {
	a.By = text(by)
	return a
}

func clauses(t testing.TB, program string) []api.Clause {
	t.Helper()
	cs, f := syntax.Program(program)
	if f.Err != api.OK {
		t.Fatalf("%q: %v", program, f)
	}
	return cs
}

// allBytes: each byte once.
func allBytes() string {
	var b []byte
	for i := range 256 {
		b = append(b, byte(i))
	}
	return string(b)
}

// kinds: those of the table.
func kinds() []int {
	var l []int
	for k := api.DoEnroll; k <= api.DoRedundant; k++ {
		l = append(l, k)
	}
	return l
}

// noKinds: numbers that are no kind's.
func noKinds() []int {
	return ints(0, -1, -2, -24, 25, 26, 99, 256+api.DoQuery, 1<<32+api.DoExport, leastInt, leastInt+api.DoWhy, greatestInt)
}

func someNumbers() []int {
	return ints(0, 1, -1, 7, -10, 1000, 65536, math.MaxInt32, math.MinInt32, greatestInt, greatestInt-1, leastInt, leastInt+1)
}
