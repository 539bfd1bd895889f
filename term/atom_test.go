package term_test

import (
	"cmp"
	"slices"
	"testing"

	"hearsay/api"
	"hearsay/term"
)

// P2.3.

func TestCheckAtomOfTheExamples(t *testing.T) {
	for _, c := range []struct {
		a    api.Atom
		want api.Errno
	}{
		{p(num(5), txt("a")), api.OK},
		{says(txt("Ann")), api.OK},
		{atom(none, "P"), api.ErrName},
		{atom(none, "says"), api.ErrName},
		{p(nTimes(9, num(1))...), api.ErrArity},
		{says(num(5)), api.ErrBy},
		{says(txt("")), api.ErrBy},
		{p(none), api.ErrTerm},
		{atom(none, "Q", append([]api.Term{none}, nTimes(8, num(1))...)...), api.ErrName},
	} {
		if got := term.CheckAtom(c.a); got != c.want {
			t.Errorf("CheckAtom(%v) is %d, want %d", c.a, got, c.want)
		}
	}
}

func TestWhichNamesAreValid(t *testing.T) {
	for _, name := range []string{"a", "z", "p9", "p_", "pAZaz09_", "say", "sayss", "saysX", "says_", "sAys", "ksays", long(32)} {
		if got := term.CheckAtom(atom(none, name)); got != api.OK {
			t.Errorf("the name %q gives %d", name, got)
		}
	}
	for _, name := range []string{"", "P", "A", "Z", "_", "_p", "9", "9p", " p", "p ", "p-q", "p.q", "p(", "p\x00", "p\n", "pé", "é", "p\xff", "`", "{", "p@", "p[", "p`", "p{", "p/", "p:", "says", long(33), long(1000)} {
		if got := term.CheckAtom(atom(none, name)); got != api.ErrName {
			t.Errorf("the name %q gives %d", name, got)
		}
	}
}

func TestEveryByteOfAName(t *testing.T) {
	for b := range 256 {
		c := byte(b)
		small := c >= 'a' && c <= 'z'
		other := c >= 'A' && c <= 'Z' || c >= '0' && c <= '9' || c == '_'
		if got := term.CheckAtom(atom(none, string([]byte{c}))) == api.OK; got != small {
			t.Errorf("the byte %q first: %v", c, got)
		}
		for _, name := range [][]byte{{'p', c}, {'p', c, 'q'}} {
			if got := term.CheckAtom(atom(none, string(name))) == api.OK; got != (small || other) {
				t.Errorf("the name %q: %v", name, got)
			}
		}
	}
}

func TestHowManyArgumentsAreValid(t *testing.T) {
	for n := range 12 {
		want := api.OK
		if n > 8 {
			want = api.ErrArity
		}
		if got := term.CheckAtom(p(nTimes(n, x(1))...)); got != want {
			t.Errorf("%d arguments give %d", n, got)
		}
	}
}

func TestWhichQualifiersAndArgumentsAreValid(t *testing.T) {
	for _, u := range []api.Term{none, ann, txt(long(64)), txt("\xff"), x(0), x(greatestInt)} {
		if got := term.CheckAtom(says(u)); got != api.OK {
			t.Errorf("the qualifier %v gives %d", u, got)
		}
	}
	for _, u := range append(validNowhere(), num(0), num(5), txt("")) {
		if got := term.CheckAtom(says(u)); got != api.ErrBy {
			t.Errorf("the qualifier %v gives %d", u, got)
		}
	}
	for _, u := range []api.Term{num(0), num(leastInt), txt(""), ann, txt(long(64)), x(0), x(greatestInt)} {
		if got := term.CheckAtom(p(u, u)); got != api.OK {
			t.Errorf("the argument %v gives %d", u, got)
		}
	}
	for _, u := range append(validNowhere(), none) {
		for _, a := range []api.Atom{p(u), p(num(1), u), says(ann, u, x(0)), p(append(nTimes(7, ann), u)...)} {
			if got := term.CheckAtom(a); got != api.ErrTerm {
				t.Errorf("%v gives %d", a, got)
			}
		}
	}
}

func TestTheFirstErrorIsTold(t *testing.T) {
	many := append(nTimes(8, num(1)), none)
	for _, c := range []struct {
		a    api.Atom
		want api.Errno
	}{
		{atom(num(5), "P", many...), api.ErrName},
		{atom(num(5), "p", many...), api.ErrArity},
		{atom(num(5), "p", many[:8]...), api.ErrBy},
		{atom(num(5), "p", none), api.ErrBy},
		{atom(ann, "p", many[1:]...), api.ErrTerm},
		{atom(ann, "p", many...), api.ErrArity},
		{atom(none, "P", none), api.ErrName},
		{api.Atom{}, api.ErrName},
	} {
		if got := term.CheckAtom(c.a); got != c.want {
			t.Errorf("CheckAtom(%v) is %d, want %d", c.a, got, c.want)
		}
	}
}

// P2.4.

func TestFact(t *testing.T) {
	for _, c := range []struct {
		a    api.Atom
		want bool
	}{
		{says(ann, num(5)), true},
		{p(x(0)), false},
		{says(x(0), num(5)), false},
		{p(), true},
		{p(num(5), x(2)), false},
		{p(x(2), num(5)), false},
		{p(nTimes(8, txt(""))...), true},
		{p(append(nTimes(7, ann), x(0))...), false},
		{p(nTimes(9, ann)...), false},
		{p(none), false},
		{p(x(-1)), false},
		{says(x(-1)), false},
		{says(num(5)), false},
		{atom(none, "P"), false},
		{api.Atom{}, false},
	} {
		if got := term.Fact(c.a); got != c.want {
			t.Errorf("Fact(%v) is %v", c.a, got)
		}
	}
}

// P2.5.

func TestCompareAtomsOfTheExamples(t *testing.T) {
	if got := term.CompareAtoms(p(txt("b")), p(txt("a"), txt("a"))); got != -1 {
		t.Errorf("fewer arguments stand at %d", got)
	}
	if got := term.CompareAtoms(p(num(5)), says(ann, num(4))); got != -1 {
		t.Errorf("none as a qualifier stands at %d", got)
	}
}

func TestCompareAtomsIsOneOrderOfAllAtoms(t *testing.T) {
	rising := []api.Atom{
		{}, atom(api.Term{Kind: -1}, "", none), atom(none, "", none),
		atom(none, "P", x(9), x(9), x(9)), atom(x(9), "o", nTimes(20, x(9))...),
		says(api.Term{Kind: -1}), p(), says(num(9)), says(txt("")), says(ann), says(x(-1)), says(x(0)),
		p(none), p(num(4)), p(num(5)), p(txt("")), p(txt("a")), p(txt("b")), p(x(-1)), p(x(0)), p(x(1)), says(ann, num(4)), says(bob, none), says(x(0), num(4)),
		p(txt("a"), txt("a")), p(txt("a"), txt("b")), p(txt("b"), num(1)), says(ann, num(1), num(2)), says(ann, num(2), num(1)),
		p(nTimes(9, num(1))...), p(append(nTimes(8, num(1)), num(2))...),
		atom(none, "p\x00"), atom(none, "pA"), atom(none, "pp"), atom(none, "q"), atom(none, "\xff"),
	}
	for i, a := range rising {
		for k, b := range rising {
			if got := term.CompareAtoms(a, b); got != cmp.Compare(i, k) {
				t.Errorf("CompareAtoms(%v, %v) is %d", a, b, got)
			}
		}
	}
}

func TestCompareAtomsIsZeroJustForTheSame(t *testing.T) {
	l := slices.Collect(someAtoms([]api.Term{none, ann, x(0), num(5)}, []api.Term{none, num(5), txt("5"), x(-1), {Kind: api.KindNum, N: 5, S: "x"}}))
	for _, a := range l {
		for _, b := range l {
			got := term.CompareAtoms(a, b)
			if (got == 0) != sameAtoms(a, b) || got != -term.CompareAtoms(b, a) {
				t.Errorf("CompareAtoms(%v, %v) is %d", a, b, got)
			}
		}
	}
	if got := term.CompareAtoms(api.Atom{Name: "p", Args: nil}, api.Atom{Name: "p", Args: []api.Term{}}); got != 0 {
		t.Errorf("no arguments and an empty list of them stand at %d", got)
	}
}

// P2.6.

func TestVars(t *testing.T) {
	for _, c := range []struct {
		a    api.Atom
		want []int
	}{
		{says(x(4), x(1), num(5), x(4), x(0)), []int{4, 1, 0}},
		{p(), nil},
		{says(ann, num(5), txt("")), nil},
		{says(x(3)), []int{3}},
		{p(x(2), x(2), x(2)), []int{2}},
		{p(x(5), x(3), x(5), x(3), x(9)), []int{5, 3, 9}},
		{says(x(0), x(greatestInt), x(0)), []int{0, greatestInt}},
		{says(x(-1), validNowhere()...), nil},
		{atom(num(5), "Not a name", x(8), none, x(7), x(8)), []int{8, 7}},
	} {
		if got := term.Vars(c.a); !slices.Equal(got, c.want) {
			t.Errorf("Vars(%v) is %v, want %v", c.a, got, c.want)
		}
	}
}

func TestVarsOfAVeryLongAtom(t *testing.T) {
	var args []api.Term
	var want []int
	for i := range 3000 {
		args = append(args, x(3000-i), x(3000-i/2))
		want = append(want, 3000-i)
	}
	if got := term.Vars(p(args...)); !slices.Equal(got, want) {
		t.Errorf("%d variables are found, want %d", len(got), len(want))
	}
}

// R3.

func TestAtomsAreLeftAsTheyAre(t *testing.T) {
	args := termsWithSpare([]api.Term{x(4), num(5), x(1), x(4)})
	kept := wholeTerms(args)
	a := api.Atom{By: x(2), Name: "p", Args: args}
	term.CheckAtom(a)
	term.Fact(a)
	term.CompareAtoms(a, a)
	first, second := term.Vars(a), term.Vars(a)
	if changedTerms(args, kept) {
		t.Errorf("the arguments became %v", args[:cap(args)])
	}
	clear(first[:cap(first)])
	if !slices.Equal(second, []int{2, 4, 1}) || changedTerms(args, kept) {
		t.Errorf("an answer of Vars shares its memory: %v", second)
	}
}
