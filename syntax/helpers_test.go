package syntax_test

import (
	"slices"
	"strings"
	"testing"

	"hearsay/api"
	"hearsay/syntax"
)

const (
	leastInt    = -1 << 63
	greatestInt = 1<<63 - 1
)

var none = api.Term{}

func num(n int) api.Term    { return api.Term{Kind: api.KindNum, N: n} }
func txt(s string) api.Term { return api.Term{Kind: api.KindText, S: s} }
func v(n int) api.Term      { return api.Term{Kind: api.KindVar, N: n} }

func long(n int) string { return strings.Repeat("a", n) }

func atom(name string, args ...api.Term) api.Atom { return api.Atom{Name: name, Args: args} }

func says(by api.Term, name string, args ...api.Term) api.Atom {
	return api.Atom{By: by, Name: name, Args: args}
}

func test(op int, l, r api.Term) api.Test { return api.Test{Op: op, L: l, R: r} }

func rule(head api.Atom, body ...api.Atom) api.Clause { return api.Clause{Head: head, Body: body} }

func with(c api.Clause, tests ...api.Test) api.Clause {
	c.Tests = tests
	return c
}

func fault(err api.Errno, at int) api.Fault { return api.Fault{Err: err, At: at} }

func sameAtom(a, b api.Atom) bool {
	return a.Name == b.Name && a.By == b.By && slices.Equal(a.Args, b.Args)
}

// same: field by field, nil and empty lists being one.
func same(a, b api.Clause) bool {
	return sameAtom(a.Head, b.Head) && slices.EqualFunc(a.Body, b.Body, sameAtom) && slices.Equal(a.Tests, b.Tests)
}

func sameClauses(a, b []api.Clause) bool { return slices.EqualFunc(a, b, same) }

func wantProgram(t *testing.T, text string, want ...api.Clause) {
	t.Helper()
	if cs, f := syntax.Program(text); !sameClauses(cs, want) || f != (api.Fault{}) {
		t.Errorf("Program(%.200q) is %+v, %v; want %+v", text, cs, f, want)
	}
}

// wantPrinted: what Program says, as it is printed. (What is printed is held against the chapter in print_test.go.)
func wantPrinted(t *testing.T, text string, want ...string) {
	t.Helper()
	cs, f := syntax.Program(text)
	var got []string
	for _, c := range cs {
		got = append(got, syntax.Print(c))
	}
	if !slices.Equal(got, want) || f != (api.Fault{}) {
		t.Errorf("Program(%.200q) is %q, %v; want %q", text, got, f, want)
	}
}

func wantFault(t *testing.T, text string, err api.Errno, at int) {
	t.Helper()
	if cs, f := syntax.Program(text); len(cs) != 0 || f != fault(err, at) {
		t.Errorf("Program(%.200q) is %+v, %v; want %v", text, cs, f, fault(err, at))
	}
}

func wantClause(t *testing.T, text string, want api.Clause) {
	t.Helper()
	if c, f := syntax.Clause(text); !same(c, want) || f != (api.Fault{}) {
		t.Errorf("Clause(%.200q) is %+v, %v; want %+v", text, c, f, want)
	}
}

func wantNoClause(t *testing.T, text string, err api.Errno, at int) {
	t.Helper()
	if c, f := syntax.Clause(text); !same(c, api.Clause{}) || f != fault(err, at) {
		t.Errorf("Clause(%.200q) is %+v, %v; want %v", text, c, f, fault(err, at))
	}
}

func wantQuery(t *testing.T, text string, want api.Atom) {
	t.Helper()
	if a, f := syntax.Query(text); !sameAtom(a, want) || f != (api.Fault{}) {
		t.Errorf("Query(%.200q) is %+v, %v; want %+v", text, a, f, want)
	}
}

func wantNoQuery(t *testing.T, text string, err api.Errno, at int) {
	t.Helper()
	if a, f := syntax.Query(text); !sameAtom(a, api.Atom{}) || f != fault(err, at) {
		t.Errorf("Query(%.200q) is %+v, %v; want %v", text, a, f, fault(err, at))
	}
}
