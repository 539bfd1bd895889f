package syntax_test

import (
	"strings"
	"testing"

	"hearsay/api"
)

func blanks(n int) string { return strings.Repeat(" ", n) }

// P5.2: the chapter's examples; ErrOne just where Program has no fault, and not just one clause.
func TestClause(t *testing.T) {
	wantNoClause(t, "p. q.", api.ErrOne, 0)
	wantNoClause(t, "", api.ErrOne, 0)
	wantNoClause(t, "p :- q; q.", api.ErrOne, 0)
	wantNoClause(t, " % p.", api.ErrOne, 0)
	wantNoClause(t, "  p. p.", api.ErrOne, 0)
	wantNoClause(t, "p. q", api.ErrSyntax, 4)
	wantNoClause(t, "p. q(X).", api.ErrSafe, 3)
	wantNoClause(t, "p?", api.ErrSyntax, 1)
	wantNoClause(t, "p. q :- "+strings.Repeat("a;", 64)+"a.", api.ErrAlts, 3)
	wantNoClause(t, "p. q :- "+strings.Repeat("(", 17), api.ErrDepth, 24)
	wantNoClause(t, "p. -0", api.ErrNumber, 3)
	wantClause(t, "p.", rule(atom("p")))
	wantClause(t, "\n p :- ((q)). % so", rule(atom("p"), atom("q")))
	wantClause(t, "p(X) :- ann says q(Y, X), Y <= 7.", with(rule(atom("p", v(0)), says(txt("ann"), "q", v(1), v(0))), test(api.OpLe, v(1), num(7))))
}

// P5.3: the chapter's examples.
func TestQuery(t *testing.T) {
	wantQuery(t, "bob says path(X, Y, X, _)?", says(txt("bob"), "path", v(0), v(1), v(0), v(2)))
	wantNoQuery(t, "p.", api.ErrSyntax, 1)
	wantNoQuery(t, "p? q", api.ErrSyntax, 3)
	wantNoQuery(t, "X = 5?", api.ErrSyntax, 2)
	wantNoQuery(t, "p", api.ErrSyntax, 1)
	wantNoQuery(t, "5?", api.ErrSyntax, 0)
	wantQuery(t, "X says p?", says(v(0), "p"))
	wantNoQuery(t, `"" says p?`, api.ErrBy, 0)
}

// P5.3: the variables are numbered as they first stand in the qualifier and the arguments.
func TestVariablesOfQueries(t *testing.T) {
	wantQuery(t, "Y says p(X, Y, _, Z, _, X)?", says(v(0), "p", v(1), v(0), v(2), v(3), v(4), v(1)))
	wantQuery(t, "_ says p(_, _)?", says(v(0), "p", v(1), v(2)))
	wantQuery(t, "p(V5, V0, V5)?", atom("p", v(0), v(1), v(0)))
	wantQuery(t, "p?", atom("p"))
	wantQuery(t, ` % so`+"\n"+` "x y" says p ( 5 , "says" , a ) ? % so`, says(txt("x y"), "p", num(5), txt("says"), txt("a")))
}

// P5.3: the faults in their order, and their places.
func TestFaultsOfQueries(t *testing.T) {
	wantNoQuery(t, "", api.ErrSyntax, 0)
	wantNoQuery(t, " % p?", api.ErrSyntax, 5)
	wantNoQuery(t, "p % ?", api.ErrSyntax, 5)
	wantNoQuery(t, "p? ?", api.ErrSyntax, 3)
	wantNoQuery(t, "p? p?", api.ErrSyntax, 3)
	wantNoQuery(t, "p :- q?", api.ErrSyntax, 2)
	wantNoQuery(t, "p()?", api.ErrSyntax, 2)
	wantNoQuery(t, "(p)?", api.ErrSyntax, 0)
	wantNoQuery(t, strings.Repeat("(", 17), api.ErrSyntax, 0)
	wantNoQuery(t, "p, q?", api.ErrSyntax, 1)
	wantNoQuery(t, "p(a", api.ErrSyntax, 3)
	wantNoQuery(t, "ann says bob says p?", api.ErrSyntax, 13)
	wantNoQuery(t, "p(-0)?", api.ErrNumber, 2)
	wantNoQuery(t, "p?? a:b", api.ErrByte, 5)
	wantNoQuery(t, `  "" says p?`, api.ErrBy, 2)
	wantNoQuery(t, `  "" says p? .`, api.ErrSyntax, 13)
	wantNoQuery(t, " "+long(33)+"(1,2,3,4,5,6,7,8,9)?", api.ErrName, 1)
	wantNoQuery(t, " p(1,2,3,4,5,6,7,8,9)?", api.ErrArity, 1)
	wantNoQuery(t, ` p(a, "`+long(65)+`")?`, api.ErrTerm, 1)
	wantQuery(t, long(32)+"(1,2,3,4,5,6,7,"+long(64)+")?", atom(long(32), num(1), num(2), num(3), num(4), num(5), num(6), num(7), txt(long(64))))
}

// P5.1, P5.2, P5.3: texts that have just as many bytes as they may, and one more; what is too long isn't looked at.
func TestTextsAtTheirLimits(t *testing.T) {
	const text, source = 32768, 1048576
	wantProgram(t, "p."+blanks(source-2), rule(atom("p")))
	wantProgram(t, blanks(source))
	wantProgram(t, "p.%"+long(source-3), rule(atom("p")))
	wantFault(t, "p."+blanks(source-1), api.ErrTextLong, 0)
	wantFault(t, strings.Repeat("\x00", source+1), api.ErrTextLong, 0)
	wantFault(t, blanks(source-1)+"p", api.ErrSyntax, source)
	wantFault(t, "p"+blanks(source-2)+"?", api.ErrSyntax, source-1)
	wantFault(t, strings.Repeat("\x00", source), api.ErrByte, 0)
	wantProgram(t, "p."+blanks(text), rule(atom("p")))
	wantClause(t, "p."+blanks(text-2), rule(atom("p")))
	wantClause(t, blanks(text-2)+"p.", rule(atom("p")))
	wantNoClause(t, blanks(text-1)+"p", api.ErrSyntax, text)
	wantNoClause(t, blanks(text), api.ErrOne, 0)
	wantNoClause(t, "p."+blanks(text-1), api.ErrTextLong, 0)
	wantNoClause(t, blanks(text+1), api.ErrTextLong, 0)
	wantNoClause(t, strings.Repeat("\x00", text+1), api.ErrTextLong, 0)
	wantQuery(t, "p?"+blanks(text-2), atom("p"))
	wantNoQuery(t, blanks(text-1)+"p", api.ErrSyntax, text)
	wantNoQuery(t, "p?"+blanks(text-1), api.ErrTextLong, 0)
	wantNoQuery(t, strings.Repeat("\x00", text+1), api.ErrTextLong, 0)
}

// P5.1, R1: rules as great as a text can be.
func TestGreatTexts(t *testing.T) {
	const source = 1048576
	fill := func(s string) string { return strings.Repeat(s, (source-20)/len(s)) }
	all := fill("p.")
	cs := make([]api.Clause, len(all)/2)
	for i := range cs {
		cs[i] = rule(atom("p"))
	}
	wantProgram(t, all, cs...)
	wantFault(t, "p :- "+fill("a,")+"a.", api.ErrBody, 0)
	wantFault(t, "p :- "+fill("1=1,")+"a.", api.ErrBody, 0)
	wantFault(t, "p("+fill("a,")+"a).", api.ErrArity, 0)
	wantFault(t, "p :- q("+fill("_,")+"_).", api.ErrArity, 0)
	wantFault(t, "p :- (a;b),(c;d),"+fill("X=Y,")+"a.", api.ErrBody, 0)
	wantFault(t, "p :- a; b; "+fill("(c),")+"a.", api.ErrBody, 0)
	wantFault(t, fill("a"), api.ErrSyntax, len(fill("a")))
	wantFault(t, fill("("), api.ErrSyntax, 0)
}
