package syntax_test

import (
	"strconv"
	"strings"
	"testing"

	"hearsay/api"
	"hearsay/syntax"
)

// side: the lits one behind the other.
func side(lits ...string) string { return strings.Join(lits, ", ") }

// choice: a bracket of n atoms a0, a1, ..
func choice(name string, n int) string {
	var l []string
	for i := range n {
		l = append(l, name+strconv.Itoa(i))
	}
	return "(" + strings.Join(l, "; ") + ")"
}

// P5.1: the choice for the first lit varies slowest, that for the last one fastest.
func TestOrderOfChoices(t *testing.T) {
	var want []string
	for i := range 4 {
		for j := range 2 {
			for k := range 8 {
				want = append(want, "p :- z, a"+strconv.Itoa(i)+", b"+strconv.Itoa(j)+", y, c"+strconv.Itoa(k)+".")
			}
		}
	}
	wantPrinted(t, "p :- "+side("z", choice("a", 4), choice("b", 2), "y", choice("c", 8))+".", want...)
	wantPrinted(t, "p :- (a; (b; c), (d; e)); f, (g; h).", "p :- a.", "p :- b, d.", "p :- b, e.", "p :- c, d.", "p :- c, e.", "p :- f, g.", "p :- f, h.")
	wantPrinted(t, "p :- ((a; b), c; d), (e; f).", "p :- a, c, e.", "p :- a, c, f.", "p :- b, c, e.", "p :- b, c, f.", "p :- d, e.", "p :- d, f.")
	wantPrinted(t, "p :- (a; 1 = 1), (2 = 2; b).", "p :- a, 2 = 2.", "p :- a, b.", "p :- 1 = 1, 2 = 2.", "p :- b, 1 = 1.")
	wantPrinted(t, "p :- 3 < 4, a, (1 < 2; b, 2 < 3, c), d.", "p :- a, d, 3 < 4, 1 < 2.", "p :- a, b, c, d, 3 < 4, 2 < 3.")
}

func wantCount(t *testing.T, body string, want int) {
	t.Helper()
	if cs, f := syntax.Program("p :- " + body + "."); len(cs) != want || f != (api.Fault{}) {
		t.Errorf("%q stands for %d clauses, %v; want %d", body, len(cs), f, want)
	}
}

func wantTooMany(t *testing.T, body string) {
	t.Helper()
	wantFault(t, "q. p :- "+body+".", api.ErrAlts, 3)
}

// P5.1: 64 clauses are let in, 65 aren't, whatever way they come about.
func TestSixtyFourAlternatives(t *testing.T) {
	wantCount(t, choice("a", 64), 64)
	wantTooMany(t, choice("a", 65))
	wantCount(t, strings.Repeat("a;", 63)+"a", 64)
	wantTooMany(t, strings.Repeat("a;", 64)+"a")
	wantCount(t, side(choice("a", 8), choice("b", 8)), 64)
	wantTooMany(t, side(choice("a", 5), choice("b", 13)))
	wantCount(t, side(choice("a", 9), choice("b", 7)), 63)
	wantTooMany(t, side(choice("a", 8), choice("b", 8), choice("c", 2)))
	wantCount(t, side(choice("a", 8), choice("b", 7))+"; "+choice("c", 7)+"; d", 64)
	wantTooMany(t, side(choice("a", 8), choice("b", 7))+"; "+choice("c", 8)+"; d")
	wantCount(t, "a; (a; (a; (a; (a; (a; "+choice("b", 58)+")))))", 64)
	wantTooMany(t, "a; (a; (a; (a; (a; (a; "+choice("b", 59)+")))))")
	six := "(a;b),(a;b),(a;b),(a;b),(a;b),(a;b)"
	wantCount(t, six, 64)
	wantTooMany(t, six+"; c")
	wantTooMany(t, six+", (c; d)")
	wantCount(t, nested(15, six[:len(six)-6])+", (a;b)", 64)
	wantTooMany(t, nested(15, "c; "+six))
	wantCount(t, nested(15, six), 64)
	wantCount(t, "((((((a; b), (a; b); c), (a; b)); (c; d)), (a; b)); e), (a; b)", 50)
}

// P5.1: what is refused for its alternatives is refused whatever its clauses are, at 64 they are looked at.
func TestAlternativesAheadOfClauses(t *testing.T) {
	wantFault(t, "p(X) :- "+strings.Repeat("a;", 64)+"a.", api.ErrAlts, 0)
	wantFault(t, "p(X) :- "+strings.Repeat("a;", 63)+"a.", api.ErrSafe, 0)
	wantFault(t, "p(X) :- "+strings.Repeat("a(X);", 63)+"a.", api.ErrSafe, 0)
	wantCount(t, strings.Repeat("a(X);", 63)+"a", 64)
	wantFault(t, "p(X) :- "+strings.Repeat("a(X);", 63)+"a(X, 1,2,3,4,5,6,7,8).", api.ErrArity, 0)
}

// P5.1, Limits: far more choices than any machine can make are counted all the same, and don't come to a small number again.
func TestFarTooManyAlternatives(t *testing.T) {
	for _, n := range []int{7, 8, 20, 31, 32, 33, 62, 63, 64, 65, 128, 1000, 100000} {
		wantTooMany(t, strings.Repeat("(a;b),", n)+"c")
	}
	for _, n := range []int{8, 16, 21, 32, 64, 100000} {
		wantTooMany(t, strings.Repeat("(a;b;c;d),", n)+"e")
		wantTooMany(t, choice("a", 3)+"; "+strings.Repeat("(a;b;c;d),", n)+"e; f")
		wantTooMany(t, "(x, (y; "+strings.Repeat("(a;b;c;d),", n)+"e; f)), g")
	}
	for _, n := range []int{66, 128, 256, 65536, 400000} {
		wantTooMany(t, strings.Repeat("a;", n)+"b")
	}
	deep := "a;b"
	for range 16 {
		deep = "(" + deep + "),(" + deep + ")"
	}
	wantTooMany(t, deep)
	wantTooMany(t, deep+"; 1 = 1")
}

// P5.1: a rule with one alternative may be written with any number of brackets.
func TestOneAlternative(t *testing.T) {
	wantPrinted(t, "p :- ((q)).", "p :- q.")
	wantPrinted(t, "p :- ((q), (r, (s))), ((1 = 1)).", "p :- q, r, s, 1 = 1.")
	wantFault(t, "p :- "+strings.Repeat("((a)),", 100000)+"a.", api.ErrBody, 0)
}
