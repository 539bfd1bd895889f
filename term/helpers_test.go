package term_test

import (
	"iter"
	"slices"
	"strings"

	"hearsay/api"
)

var (
	none = api.Term{}
	ann  = txt("ann")
	bob  = txt("bob")

	leastInt    = -1 << 63
	greatestInt = 1<<63 - 1
)

func num(n int) api.Term    { return api.Term{Kind: api.KindNum, N: n} }
func txt(s string) api.Term { return api.Term{Kind: api.KindText, S: s} }
func x(n int) api.Term      { return api.Term{Kind: api.KindVar, N: n} }

func long(n int) string { return strings.Repeat("a", n) }

func atom(by api.Term, name string, args ...api.Term) api.Atom {
	return api.Atom{By: by, Name: name, Args: args}
}

func p(args ...api.Term) api.Atom                 { return atom(none, "p", args...) }
func says(by api.Term, args ...api.Term) api.Atom { return atom(by, "p", args...) }

func bind(v int, to api.Term) api.Bind    { return api.Bind{Var: v, To: to} }
func binds(l ...api.Bind) api.Binding     { return l }
func test(op int, l, r api.Term) api.Test { return api.Test{Op: op, L: l, R: r} }
func nTimes(n int, t api.Term) []api.Term { return slices.Repeat([]api.Term{t}, n) }

func placesOf(a api.Atom) []api.Term { return append([]api.Term{a.By}, a.Args...) }
func fixed(t api.Term) bool          { return t.Kind != api.KindVar || t.N < 0 || t.S != "" }

func principal(t api.Term) bool {
	return t.Kind == api.KindText && t.N == 0 && t.S != "" && len(t.S) <= 64
}

func sameAtoms(a, b api.Atom) bool {
	return a.Name == b.Name && a.By == b.By && slices.Equal(a.Args, b.Args)
}

// termsWithSpare: a copy of l with spare room behind it that isn't zero.
func termsWithSpare(l []api.Term) []api.Term {
	return append(slices.Clone(l), num(71), ann, x(3))[:len(l)]
}

func bindsWithSpare(l api.Binding) api.Binding {
	return append(slices.Clone(l), bind(0, num(71)), bind(9, ann))[:len(l)]
}

// wholeTerms: what l and its spare room hold now, to be asked later by changedTerms.
func wholeTerms(l []api.Term) []api.Term    { return slices.Clone(l[:cap(l)]) }
func wholeBinds(l api.Binding) api.Binding  { return slices.Clone(l[:cap(l)]) }
func changedTerms(l, kept []api.Term) bool  { return !slices.Equal(l[:cap(l)], kept) }
func changedBinds(l, kept api.Binding) bool { return !slices.Equal(l[:cap(l)], kept) }

// validNowhere: terms that are neither constants nor variables nor none.
func validNowhere() []api.Term {
	return []api.Term{
		{Kind: api.KindNone, N: 1}, {Kind: api.KindNone, S: "x"}, {Kind: api.KindNum, N: 5, S: "x"}, {Kind: api.KindText, N: 1, S: "x"}, {Kind: api.KindText, N: -1}, txt(long(65)),
		x(-1), x(leastInt), {Kind: api.KindVar, N: 1, S: "x"}, {Kind: 4}, {Kind: -1}, {Kind: greatestInt, N: leastInt, S: "y"}, {Kind: leastInt},
	}
}

// someAtoms: every atom p of at most two arguments over these qualifiers and arguments.
func someAtoms(bys, args []api.Term) iter.Seq[api.Atom] {
	return func(yield func(api.Atom) bool) {
		for _, by := range bys {
			if !yield(says(by)) {
				return
			}
			for _, t := range args {
				if !yield(says(by, t)) {
					return
				}
				for _, u := range args {
					if !yield(says(by, t, u)) {
						return
					}
				}
			}
		}
	}
}
