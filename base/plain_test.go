package base_test

import (
	"math/rand"
	"regexp"
	"slices"
	"strings"
	"testing"

	"hearsay/api"
	"hearsay/base"
)

// plain: a base as the chapter tells it: a list of facts, each with its part, gone through from end to end by every call. It asks nothing of the layers below.
type plain struct {
	facts []placed
}

type placed struct {
	fact api.Atom
	part int
}

var name = regexp.MustCompile(`^[a-z][a-zA-Z0-9_]{0,31}$`)

func constant(t api.Term) bool {
	return t == num(t.N) || t == txt(t.S) && len(t.S) <= 64
}

func variable(t api.Term) bool { return t == v(t.N) && t.N >= 0 }

func isFact(f api.Atom) bool {
	said := f.By == none || f.By.Kind == api.KindText && f.By.S != "" && constant(f.By)
	return said && f.Name != "says" && name.MatchString(f.Name) && len(f.Args) <= 8 && !slices.ContainsFunc(f.Args, func(t api.Term) bool { return !constant(t) })
}

func compareTerms(x, y api.Term) int {
	switch {
	case x.Kind != y.Kind:
		return less(x.Kind < y.Kind)
	case x.N != y.N:
		return less(x.N < y.N)
	}
	return strings.Compare(x.S, y.S)
}

func less(yes bool) int {
	if yes {
		return -1
	}
	return 1
}

func compare(x, y api.Atom) int {
	switch {
	case x.Name != y.Name:
		return strings.Compare(x.Name, y.Name)
	case len(x.Args) != len(y.Args):
		return less(len(x.Args) < len(y.Args))
	case x.By != y.By:
		return compareTerms(x.By, y.By)
	}
	return slices.CompareFunc(x.Args, y.Args, compareTerms)
}

// matches: the pattern becomes the fact by putting, for each variable in turn, what the fact has at its first place into all its places.
func matches(pattern, fact api.Atom) bool {
	if pattern.Name != fact.Name || len(pattern.Args) != len(fact.Args) || variable(pattern.By) && fact.By == none {
		return false
	}
	l := append([]api.Term{pattern.By}, pattern.Args...)
	want := append([]api.Term{fact.By}, fact.Args...)
	for i, t := range l {
		if !variable(t) {
			continue
		}
		for k := range l {
			if l[k] == t {
				l[k] = want[i]
			}
		}
	}
	return slices.Equal(l, want)
}

func (s *plain) part(f api.Atom) int {
	for _, x := range s.facts {
		if sameAtom(x.fact, f) {
			return x.part
		}
	}
	return 0
}

func (s *plain) add(f api.Atom) (bool, api.Errno) {
	if !isFact(f) {
		return false, api.ErrFact
	}
	if s.part(f) != 0 {
		return false, api.OK
	}
	f.Args = slices.Clone(f.Args)
	s.facts = append(s.facts, placed{f, 4})
	return true, api.OK
}

func (s *plain) turn() int {
	n := 0
	for i, x := range s.facts {
		switch x.part {
		case 2:
			s.facts[i].part = 1
		case 4:
			s.facts[i].part = 2
			n++
		}
	}
	return n
}

// names: whether the parts name this one, told by taking the number apart.
func names(parts, part int) bool {
	rest := parts % 8
	if rest < 0 {
		rest += 8
	}
	for _, p := range []int{4, 2, 1} {
		if rest >= p {
			if p == part {
				return true
			}
			rest -= p
		}
	}
	return false
}

// chosenBy: the parts' facts of which yes is told, in order.
func (s *plain) chosenBy(parts int, yes func(api.Atom) bool) []api.Atom {
	var out []api.Atom
	for _, x := range s.facts {
		if names(parts, x.part) && yes(x.fact) {
			out = append(out, x.fact)
		}
	}
	slices.SortFunc(out, compare)
	return out
}

func (s *plain) all(parts int) []api.Atom {
	return s.chosenBy(parts, func(api.Atom) bool { return true })
}

func (s *plain) find(parts int, pattern api.Atom) []api.Atom {
	return s.chosenBy(parts, func(f api.Atom) bool { return matches(pattern, f) })
}

func (s *plain) preds() []api.Pred {
	var out []api.Pred
	for _, f := range s.all(7) {
		if p := pred(f.Name, len(f.Args)); !slices.Contains(out, p) {
			out = append(out, p)
		}
	}
	return out
}

// both: a base, and the plain one to which the same is done.
type both struct {
	t *testing.T
	s *base.Base
	p *plain
}

func newBoth(t *testing.T) *both {
	t.Helper()
	return &both{t, newBase(t), &plain{}}
}

func (x *both) add(l ...api.Atom) {
	x.t.Helper()
	for _, f := range l {
		came, err := x.s.Add(f)
		wantCame, wantErr := x.p.add(f)
		if came != wantCame || err != wantErr {
			x.t.Errorf("P8.2: Add(%v) is %v, %d; want %v, %d", f, came, err, wantCame, wantErr)
		}
	}
}

func (x *both) turn() {
	x.t.Helper()
	wantTurn(x.t, x.s, x.p.turn())
}

func (x *both) part(f api.Atom) {
	x.t.Helper()
	wantPart(x.t, x.s, f, x.p.part(f))
}

func (x *both) find(parts int, pattern api.Atom) {
	x.t.Helper()
	wantFind(x.t, x.s, parts, pattern, x.p.find(parts, pattern)...)
}

// oddParts: every sum, and numbers with bits above 4's.
func oddParts() []int {
	return []int{0, 1, 2, 3, 4, 5, 6, 7, 8, 9, 11, 12, 15, 16, 26, 255, 256, 1 << 32, 1<<32 + 4, -1, -2, -3, -4, -5, -6, -7, -8, -9, -16, leastInt, leastInt + 1, leastInt + 6, greatestInt, greatestInt - 1, greatestInt - 7}
}

// look: all that can be asked of the parts.
func (x *both) look() {
	x.t.Helper()
	for _, f := range x.p.facts {
		wantPart(x.t, x.s, f.fact, f.part)
	}
	for _, parts := range oddParts() {
		want := x.p.all(parts)
		wantLen(x.t, x.s, parts, len(want))
		wantFacts(x.t, x.s, parts, want...)
	}
	wantLen(x.t, x.s, 7, len(x.p.facts))
	wantPreds(x.t, x.s, x.p.preds()...)
}

// findAll: by every pattern of these names, of up to two arguments, whose qualifier and arguments are of these lists.
func (x *both) findAll(parts int, names []string, bys, args []api.Term) {
	x.t.Helper()
	for _, f := range product(names, bys, args) {
		x.find(parts, f)
		x.part(f)
	}
}

// product: all atoms of these names, of up to two arguments, whose qualifier and arguments are of these lists.
func product(names []string, bys, args []api.Term) []api.Atom {
	var out []api.Atom
	for _, n := range names {
		for _, who := range bys {
			out = append(out, by(who, atom(n)))
			for _, t := range args {
				out = append(out, by(who, atom(n, t)))
				for _, u := range args {
					out = append(out, by(who, atom(n, t, u)))
				}
			}
		}
	}
	return out
}

// chosen: what is done to a base by chance, the same at every run. Few names and terms, so that facts come again, and share terms.
type chosen struct{ *rand.Rand }

func newChosen(seed int64) *chosen { return &chosen{rand.New(rand.NewSource(seed))} }

func one[T any](c *chosen, of ...T) T { return of[c.Intn(len(of))] }

func (c *chosen) atom(bys, args []api.Term) api.Atom {
	f := by(one(c, bys...), atom(one(c, "p", "q", "pq")))
	for range one(c, 0, 1, 1, 2, 2, 2, 3) {
		f.Args = append(f.Args, one(c, args...))
	}
	return f
}

func (c *chosen) fact() api.Atom {
	return c.atom([]api.Term{none, none, ann, bob, a, txt("5")}, []api.Term{a, b, ann, num(5), txt("5"), num(-1)})
}

func (c *chosen) pattern() api.Atom {
	bys := []api.Term{none, none, ann, a, v(0), v(0), v(1), txt("5"), num(5), v(-1), txt("c")}
	return c.atom(bys, []api.Term{a, b, num(5), v(0), v(0), v(0), v(1), v(1), v(2), txt("5"), ann, none, txt("c")})
}

// change: facts come, or a turn is made; now and then an atom comes that may be no fact.
func (c *chosen) change(x *both) {
	x.t.Helper()
	if c.Intn(4) == 0 {
		x.turn()
		return
	}
	for range c.Intn(4) {
		x.add(c.fact())
	}
	if c.Intn(9) == 0 {
		x.add(c.pattern())
	}
}

func (c *chosen) ask(x *both) {
	x.t.Helper()
	f := c.pattern()
	x.find(one(c, oddParts()...), f)
	x.find(7, f)
	x.part(f)
	x.part(c.fact())
}
