package syntax_test

import (
	"strings"
	"testing"

	"hearsay/api"
	"hearsay/syntax"
)

// P5.1: the chapter's table of programs, one by one.
func TestExamplesOfPrograms(t *testing.T) {
	wantPrinted(t, "good(X) :- friend(X, Y), Y != bob.", "good(V0) :- friend(V0, V1), V1 != bob.")
	wantPrinted(t, "p(B,A):-5<A,q(A , B),ann says r(A). % so", "p(V0, V1) :- q(V1, V0), ann says r(V1), 5 < V1.")
	wantPrinted(t, "p :- q; r.", "p :- q.", "p :- r.")
	wantPrinted(t, "p :- (a; b), (c; d).", "p :- a, c.", "p :- a, d.", "p :- b, c.", "p :- b, d.")
	wantPrinted(t, "p :- a, (b, (c; X = X, e(X)); d).", "p :- a, b, c.", "p :- a, b, e(V0), V0 = V0.", "p :- a, d.")
	wantPrinted(t, "p(X) :- q(X, _), r(_, X).", "p(V0) :- q(V0, V1), r(V2, V0).")
	wantPrinted(t, "p(X) :- q(X); r(X, Y), s(Y). p(X) :- X says t.", "p(V0) :- q(V0).", "p(V0) :- r(V0, V1), s(V1).", "p(V0) :- V0 says t.")
	wantPrinted(t, `"x y" says p("says", "", ann, "Ann", -3).`, `"x y" says p("says", "", ann, "Ann", -3).`)
	wantPrinted(t, `"ann" says p.`, "ann says p.")
	wantPrinted(t, "")
	wantPrinted(t, " \t\r\n% p(X).\n % and more")
}

// P5.1: so field by field, without what Print makes of it.
func TestClausesFieldByField(t *testing.T) {
	wantProgram(t, "good(X) :- friend(X, Y), Y != bob.",
		with(rule(atom("good", v(0)), atom("friend", v(0), v(1))), test(api.OpNe, v(1), txt("bob"))))
	wantProgram(t, "p(B,A):-5<A,q(A , B),ann says r(A).",
		with(rule(atom("p", v(0), v(1)), atom("q", v(1), v(0)), says(txt("ann"), "r", v(1))), test(api.OpLt, num(5), v(1))))
	wantProgram(t, `"x y" says p("says", "", ann, "Ann", -3). p :- X says q, "" <= X, 1 = 2.`,
		rule(says(txt("x y"), "p", txt("says"), txt(""), txt("ann"), txt("Ann"), num(-3))),
		with(rule(atom("p"), says(v(0), "q")), test(api.OpLe, txt(""), v(0)), test(api.OpEq, num(1), num(2))))
	wantProgram(t, "p(-9223372036854775808, 9223372036854775807, 0).", rule(atom("p", num(leastInt), num(greatestInt), num(0))))
	wantProgram(t, "p. p. p.", rule(atom("p")), rule(atom("p")), rule(atom("p")))
	wantProgram(t, "p :- q; q; (q; q).", rule(atom("p"), atom("q")), rule(atom("p"), atom("q")), rule(atom("p"), atom("q")), rule(atom("p"), atom("q")))
	wantProgram(t, "p :- ann, p = p, p says p(p), p.",
		with(rule(atom("p"), atom("ann"), says(txt("p"), "p", txt("p")), atom("p")), test(api.OpEq, txt("p"), txt("p"))))
}

// P5.1: the chapter's table of faults, one by one.
func TestExamplesOfFaults(t *testing.T) {
	wantFault(t, "p :- q", api.ErrSyntax, 6)
	wantFault(t, "p() .", api.ErrSyntax, 2)
	wantFault(t, "p :- .", api.ErrSyntax, 5)
	wantFault(t, "p, q.", api.ErrSyntax, 1)
	wantFault(t, "p :- X.", api.ErrSyntax, 6)
	wantFault(t, "p :- 5 says q.", api.ErrSyntax, 7)
	wantFault(t, "5 = 5.", api.ErrSyntax, 0)
	wantFault(t, "p = q.", api.ErrSyntax, 2)
	wantFault(t, "ann says bob says p.", api.ErrSyntax, 13)
	wantFault(t, "p :- (q; r.", api.ErrSyntax, 10)
	wantFault(t, "p :- q) .", api.ErrSyntax, 6)
	wantFault(t, "p :- q?", api.ErrSyntax, 6)
	wantFault(t, "p(X). q :- )", api.ErrSafe, 0)
	wantFault(t, `p(1). q(2) :- "" says r.`, api.ErrBy, 6)
	wantFault(t, "p(a). X says q :- X says r.", api.ErrHead, 6)
	wantFault(t, "p :- q. a:b", api.ErrByte, 9)
	wantFault(t, "p :- "+strings.Repeat("(", 17), api.ErrDepth, 21)
	wantFault(t, "p :- (a;b),(a;b),(a;b),(a;b),(a;b),(a;b),(a;b).", api.ErrAlts, 0)
	if cs, f := syntax.Program("p :- (a;b),(a;b),(a;b),(a;b),(a;b),(a;b)."); len(cs) != 64 || f != (api.Fault{}) {
		t.Errorf("six brackets of two: %d clauses, %v", len(cs), f)
	}
}

// P5.1: a text that ends too early is refused at its length, blanks and remarks behind the last token counted in.
func TestTextsThatEndTooEarly(t *testing.T) {
	for _, text := range []string{"p", "p(", "p(a", "p(a,", "p(a)", "ann", "ann says", "X", `"x"`, "p :-", "p :- q", "p :- q,", "p :- q;", "p :- (", "p :- (q", "p :- (q)", "p :- 5", "p :- X", "p :- X <", "p :- X < 5", "p :- X says", "p :- q(", "q. p"} {
		for _, behind := range []string{"", " ", "\n\t", " % so.", "% so.\n "} {
			wantFault(t, text+behind, api.ErrSyntax, len(text+behind))
			wantFault(t, behind+"\n"+text, api.ErrSyntax, len(behind+"\n"+text))
		}
	}
}

// P5.1: says is no word, in quotes it is a text like any other; what is in quotes is never a name.
func TestSays(t *testing.T) {
	wantFault(t, "says.", api.ErrSyntax, 0)
	wantFault(t, "p(says).", api.ErrSyntax, 2)
	wantFault(t, "says says p.", api.ErrSyntax, 0)
	wantFault(t, "ann says says.", api.ErrSyntax, 9)
	wantFault(t, "p :- says = a.", api.ErrSyntax, 5)
	wantFault(t, "p :- a = says.", api.ErrSyntax, 9)
	wantFault(t, `ann says "p".`, api.ErrSyntax, 9)
	wantFault(t, `"p".`, api.ErrSyntax, 3)
	wantFault(t, `p :- "q"(a).`, api.ErrSyntax, 8)
	wantFault(t, "ann says X.", api.ErrSyntax, 9)
	wantProgram(t, `"says" says p("says").`, rule(says(txt("says"), "p", txt("says"))))
	wantProgram(t, `p :- "says" < "says".`, with(rule(atom("p")), test(api.OpLt, txt("says"), txt("says"))))
}

// P5.1: an atom has no arguments of its own kind, a test no atoms as sides.
func TestWhatIsNoTerm(t *testing.T) {
	wantFault(t, "p(q(a)).", api.ErrSyntax, 3)
	wantFault(t, "p(ann says q).", api.ErrSyntax, 6)
	wantFault(t, "p((a)).", api.ErrSyntax, 2)
	wantFault(t, "p(a; b).", api.ErrSyntax, 3)
	wantFault(t, "p :- q(a) = 5.", api.ErrSyntax, 10)
	wantFault(t, "p :- 5 = q(a).", api.ErrSyntax, 10)
	wantFault(t, "p :- a = b = c.", api.ErrSyntax, 11)
	wantFault(t, "p :- (a) = b.", api.ErrSyntax, 9)
	wantFault(t, "p :- ann says q = b.", api.ErrSyntax, 16)
	wantFault(t, "p :- a = ann says q.", api.ErrSyntax, 13)
	wantFault(t, "p :- ann says (q).", api.ErrSyntax, 14)
	wantFault(t, "(p).", api.ErrSyntax, 0)
	wantFault(t, "p; q.", api.ErrSyntax, 1)
	wantFault(t, "p :- q :- r.", api.ErrSyntax, 7)
	wantFault(t, "p..", api.ErrSyntax, 2)
}

func nested(n int, inner string) string {
	return strings.Repeat("(", n) + inner + strings.Repeat(")", n)
}

// P5.1: 16 brackets may be open at one time; those that are shut again, and those of arguments, don't count.
func TestDepth(t *testing.T) {
	q := rule(atom("p"), atom("q"))
	wantProgram(t, "p :- "+nested(16, "q")+".", q)
	wantProgram(t, "p :- "+nested(16, "q(a)")+".", rule(atom("p"), atom("q", txt("a"))))
	wantProgram(t, "p :- "+nested(16, "q")+","+nested(16, "q")+".", rule(atom("p"), atom("q"), atom("q")))
	wantProgram(t, "p :- "+nested(15, "(q),(q);(q)")+".", rule(atom("p"), atom("q"), atom("q")), q)
	wantProgram(t, "p :- "+nested(16, "q")+". p :- "+nested(16, "q")+".", q, q)
	wantProgram(t, "p :- "+strings.Repeat("(q),", 7)+"(q).", rule(atom("p"), atom("q"), atom("q"), atom("q"), atom("q"), atom("q"), atom("q"), atom("q"), atom("q")))
	wantFault(t, "p :- "+nested(17, "q")+".", api.ErrDepth, 21)
	wantFault(t, "p :- "+strings.Repeat("(", 17)+"a:b", api.ErrByte, 23)
	wantFault(t, "p :- "+strings.Repeat("(", 5000), api.ErrDepth, 21)
	wantFault(t, "p :- "+strings.Repeat(" (", 17), api.ErrDepth, 38)
	wantFault(t, "p :- "+nested(15, "(q), (q; r, (s, ((t))))")+".", api.ErrDepth, 32)
	wantFault(t, "p :- (q), "+strings.Repeat("(", 17), api.ErrDepth, 26)
	wantFault(t, "q. p :- "+nested(17, "q")+".", api.ErrDepth, 24)
	wantFault(t, "p :- "+strings.Repeat("(", 16), api.ErrSyntax, 21)
	wantFault(t, "p :- "+nested(16, "q"), api.ErrSyntax, 38)
}

// P5.1: a 17th bracket that can't stand where it stands opens none.
func TestDepthWhereNoBracketMayStand(t *testing.T) {
	deep := "p :- " + strings.Repeat("(", 16)
	wantFault(t, deep+")(", api.ErrSyntax, 21)
	wantFault(t, deep+"5(", api.ErrSyntax, 22)
	wantFault(t, deep+"X(", api.ErrSyntax, 22)
	wantFault(t, deep+"ann says (", api.ErrSyntax, 30)
	wantFault(t, deep+"a = (", api.ErrSyntax, 25)
	wantFault(t, deep+"q((", api.ErrSyntax, 23)
	wantFault(t, deep+"q(a)(", api.ErrSyntax, 25)
	wantFault(t, deep+"q(", api.ErrSyntax, 23)
	wantFault(t, deep+"q;(", api.ErrDepth, 23)
	wantFault(t, deep+"q,(", api.ErrDepth, 23)
	wantFault(t, deep+"q), )(", api.ErrSyntax, 25)
	wantFault(t, deep+"q) (", api.ErrSyntax, 24)
	wantFault(t, "(", api.ErrSyntax, 0)
	wantFault(t, strings.Repeat("(", 17), api.ErrSyntax, 0)
}

// P5.1: the further left of ErrDepth and ErrSyntax; rule by rule, in each of them the grammar, the alternatives, the clauses; the whole text is cut ahead of all.
func TestTheFirstFaultOfSeveral(t *testing.T) {
	deep, many := nested(17, "q"), strings.Repeat("(a;b),", 7)+"a"
	wantFault(t, "p :- X, "+deep+".", api.ErrSyntax, 6)
	wantFault(t, "p :- "+deep+", X.", api.ErrDepth, 21)
	wantFault(t, "p(X) :- "+many+", "+deep+".", api.ErrDepth, 69)
	wantFault(t, "p(X) :- "+many+" ?", api.ErrSyntax, 52)
	wantFault(t, "p(X) :- "+many+".", api.ErrAlts, 0)
	wantFault(t, " p(X) :- a. p :- "+many+".", api.ErrSafe, 1)
	wantFault(t, " p :- "+many+". p(X).", api.ErrAlts, 1)
	wantFault(t, "p :- a. p(X). p :- "+deep, api.ErrSafe, 8)
	wantFault(t, "p :- a. p(X", api.ErrSyntax, 11)
	wantFault(t, "p :- a. p(X) q(007).", api.ErrNumber, 15)
	wantFault(t, `p ( . "\q"`, api.ErrEscape, 7)
	wantFault(t, `p ( . "`, api.ErrOpen, 6)
	wantFault(t, "p(X). q(Y) :- r. s(Z) :- t.", api.ErrSafe, 0)
	wantFault(t, `P. "" says p(X).`, api.ErrSyntax, 1)
	wantFault(t, `"" says p(X). P.`, api.ErrBy, 0)
}

// P5.1: the fault is that of the first clause that isn't valid, at the rule's first token, wherever it comes from.
func TestFaultsOfClauses(t *testing.T) {
	wantFault(t, "p :- (q; X = 5; \"\" says r).", api.ErrSafe, 0)
	wantFault(t, "p :- (q; \"\" says r; X = 5).", api.ErrBy, 0)
	wantFault(t, " \n p(X) :- (q(X); r).", api.ErrSafe, 3)
	wantFault(t, "q.\n% p.\np(X) :- q(Y).", api.ErrSafe, 8)
	wantFault(t, "p :- X = 5.", api.ErrSafe, 0)
	wantFault(t, "p(_) :- q(_).", api.ErrSafe, 0)
	wantFault(t, "p :- q(_), _ = _.", api.ErrSafe, 0)
	wantFault(t, "X says p(X) :- q(X).", api.ErrHead, 0)
	wantFault(t, `p. "" says q.`, api.ErrBy, 3)
	wantFault(t, `p. "`+long(65)+`" says q.`, api.ErrBy, 3)
	wantFault(t, `p. q("`+long(65)+`").`, api.ErrTerm, 3)
	wantFault(t, "p. q("+long(65)+").", api.ErrTerm, 3)
	wantFault(t, `p :- q, 5 < "`+long(65)+`".`, api.ErrTest, 0)
	wantFault(t, "p. "+long(33)+".", api.ErrName, 3)
	wantFault(t, "p(1,2,3,4,5,6,7,8,9).", api.ErrArity, 0)
	wantFault(t, "p :- a,a,a,a,(a,a,a,a,a).", api.ErrBody, 0)
	wantFault(t, "p :- 1=1,1=1,1=1,1=1,(1=1,1=1,1=1,1=1,1=1).", api.ErrBody, 0)
	wantPrinted(t, "p :- a,a,a,a,a,a,a,a,1=1,1=1,1=1,1=1,1=1,1=1,1=1,1=1.", "p :- a, a, a, a, a, a, a, a, 1 = 1, 1 = 1, 1 = 1, 1 = 1, 1 = 1, 1 = 1, 1 = 1, 1 = 1.")
	wantProgram(t, long(32)+"("+long(64)+", 2, 3, 4, 5, 6, 7, 8).", rule(atom(long(32), txt(long(64)), num(2), num(3), num(4), num(5), num(6), num(7), num(8))))
}

// P5.1: what is too long for a name may still be a constant.
func TestNamesAndConstantsOfAnyLength(t *testing.T) {
	wantProgram(t, long(64)+" says p("+long(64)+").", rule(says(txt(long(64)), "p", txt(long(64)))))
	wantFault(t, long(65)+" says p.", api.ErrBy, 0)
	wantProgram(t, "p :- q(A"+long(1000)+", A"+long(1000)+", A"+long(999)+").", rule(atom("p"), atom("q", v(0), v(0), v(1))))
}

// P5.1: one name is one variable in a rule, and another one in the next; _ alone is another one each time.
func TestVariables(t *testing.T) {
	wantPrinted(t, "p(X, Y, X) :- q(Y, X), X says r(Z), Z != Y.", "p(V0, V1, V0) :- q(V1, V0), V0 says r(V2), V2 != V1.")
	wantPrinted(t, "p(X, Y) :- q(X, Y). p(Y, X) :- q(Y, X).", "p(V0, V1) :- q(V0, V1).", "p(V0, V1) :- q(V0, V1).")
	wantPrinted(t, "p(Y) :- q(Y). p(X) :- q(Y, X).", "p(V0) :- q(V0).", "p(V0) :- q(V1, V0).")
	wantPrinted(t, "p :- _ says q(_, _), _ says r(_).", "p :- V0 says q(V1, V2), V3 says r(V4).")
	wantFault(t, "p :- q(__, _, __, _a, _, _A, _a, _0, V1).", api.ErrArity, 0)
	wantPrinted(t, "p :- q(__, _, __, _a, _, _A, _a, V1).", "p :- q(V0, V1, V0, V2, V3, V4, V2, V5).")
	wantPrinted(t, "p :- q(V7, V0, V7, Vv).", "p :- q(V0, V1, V0, V2).")
	wantPrinted(t, "p(_a) :- q(_a, _), 7 = _a.", "p(V0) :- q(V0, V1), 7 = V0.")
	wantPrinted(t, "p :- q(Xy, XY, X).", "p :- q(V0, V1, V2).")
	wantPrinted(t, "p :- q(_, _). p :- q(_, X), r(X).", "p :- q(V0, V1).", "p :- q(V0, V1), r(V1).")
}

// P5.1: each clause of a rule has its own numbers, by its own head, body and tests; a test's variables come last however far ahead it is written.
func TestVariablesOfAlternatives(t *testing.T) {
	wantPrinted(t, "p(X) :- (q(Y, X); r(Z, Y), s(X)).", "p(V0) :- q(V1, V0).", "p(V0) :- r(V1, V2), s(V0).")
	wantPrinted(t, "p :- X < Y, q(Y), (r(X); X says s(_)).", "p :- q(V0), r(V1), V1 < V0.", "p :- q(V0), V1 says s(V2), V1 < V0.")
	wantPrinted(t, "p :- q(_), (r(_); s(_, _)), t(_).", "p :- q(V0), r(V1), t(V2).", "p :- q(V0), s(V1, V2), t(V3).")
	wantPrinted(t, "p :- (A = A, q(B); r(B)), s(A).", "p :- q(V0), s(V1), V1 = V1.", "p :- r(V0), s(V1).")
}
