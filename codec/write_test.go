package codec_test

import (
	"slices"
	"testing"

	"hearsay/api"
	"hearsay/clause"
	"hearsay/term"
)

// P6.1.

// TestRowsOfTheTable: bytes written out by hand, the edges of each row among them.
func TestRowsOfTheTable(t *testing.T) {
	p := "00 01 70 01"
	for text, term := range map[string]api.Term{
		"01" + zero8:                 num(0),
		"01 00 00 00 00 00 00 00 01": num(1),
		"01 ff ff ff ff ff ff ff ff": num(-1),
		"01 80 00 00 00 00 00 00 00": num(leastInt),
		"01 7f ff ff ff ff ff ff ff": num(greatestInt),
		"01 01 23 45 67 89 ab cd ef": num(0x0123456789abcdef),
		"02 00":                      txt(""),
		"02 01 00":                   txt("\x00"),
		"02 03 ff 00 41":             txt("\xff\x00A"),
		"03" + zero8:                 v(0),
		"03 00 00 00 00 00 00 01 00": v(256),
		"03 7f ff ff ff ff ff ff ff": v(greatestInt),
	} {
		atoms().wantWritten(t, "P6.1", atom("p", term), unhex(p+text))
		atoms().wantRead(t, "P6.3", unhex(p+text), atom("p", term))
	}
	a64 := append([]byte{2, 64}, long(64)...)
	atoms().wantWritten(t, "P6.1", atom("p", txt(long(64))), slices.Concat(unhex(p), a64))
	atoms().wantWritten(t, "P6.1", says(txt(long(64)), "p"), slices.Concat(a64, unhex("01 70 00")))
	atoms().wantWritten(t, "P6.1", says(txt("b"), "p"), unhex("02 01 62 01 70 00"))
	atoms().wantWritten(t, "P6.1", says(v(greatestInt), "p"), unhex("03 7f ff ff ff ff ff ff ff 01 70 00"))
	atoms().wantWritten(t, "P6.1", atom(long(32)), slices.Concat([]byte{0, 32}, []byte(long(32)), []byte{0}))
	atoms().wantWritten(t, "P6.1", atom("p", nTimes(8, txt(""))...), unhex("00 01 70 08 0200 0200 0200 0200 0200 0200 0200 0200"))
	for op, text := range map[int]string{api.OpEq: "01", api.OpNe: "02", api.OpLt: "03", api.OpLe: "04"} {
		c := with(rule(atom("p")), test(op, txt("a"), num(leastInt)))
		clauses().wantWritten(t, "P6.1", c, unhex("00 01 70 00 00 01 "+text+"02 01 61 01"+minus8))
	}
	q8 := slices.Repeat(unhex("00 01 71 00"), 8)
	clauses().wantWritten(t, "P6.1", rule(atom("p"), nTimes(8, atom("q"))...), slices.Concat(unhex("00 01 70 00 08"), q8, []byte{0}))
	d := proof(list(rule(atom("q")), rule(atom("p"))), step(258, []api.Term{txt(""), num(-1)}, 0, greatestInt))
	proofs().wantWritten(t, "P6.1", d, unhex("00 00 00 02 | 00 01 71 00 00 00 | 00 01 70 00 00 00 | 00 00 00 01 | 00 00 00 00 00 00 01 02 |"+
		"00 00 00 02 | 02 00 | 01 ff ff ff ff ff ff ff ff | 00 00 00 02 |"+zero8+"| 7f ff ff ff ff ff ff ff"))
}

// wantAsPlain: each of the things is written as the plain version of the table has it.
func wantAsPlain[T any](t *testing.T, f face[T], things []T) {
	t.Helper()
	for _, x := range things {
		f.wantWritten(t, "P6.1", x, joined(f.parts(x)))
	}
}

func TestWrittenAsTheTableHasIt(t *testing.T) {
	wantAsPlain(t, atoms(), validAtoms())
	wantAsPlain(t, clauses(), validClauses())
	wantAsPlain(t, sets(), validSets())
	wantAsPlain(t, proofs(), writableProofs())
}

// wrongAtoms: each thing that CheckAtom refuses, and several at once.
func wrongAtoms() []api.Atom {
	out := []api.Atom{
		{}, atom(""), atom(long(33)), atom("p", nTimes(9, num(1))...), atom("p", nTimes(300, num(1))...), says(num(5), "p"), says(txt(""), "p"), atom("p", none), atom("p", num(1), none), atom("p", txt(long(65))), says(txt(long(65)), "p"),
		says(num(5), "P", nTimes(9, none)...), says(num(5), "p", nTimes(9, none)...), says(num(5), "p", none),
	}
	for _, s := range noNames() {
		out = append(out, atom(s))
	}
	for _, x := range notTerms() {
		out = append(out, atom("p", x), says(x, "p"), atom("p", v(0), x))
	}
	return out
}

// wrongClauses: an atom or a test that is none at each place, too many of them, and what a clause of good parts may be refused for.
func wrongClauses() []api.Clause {
	x, y := v(0), v(1)
	out := []api.Clause{
		{}, rule(atom("p"), nTimes(9, atom("q"))...), rule(atom("p"), nTimes(300, atom("q"))...), with(rule(atom("p")), nTimes(9, test(1, num(1), num(1)))...),
		rule(says(x, "p"), atom("q", x)), rule(atom("p", x)), with(rule(atom("p")), test(1, x, x)), rule(atom("p", y), atom("q", y)), rule(atom("p"), says(y, "q")), rule(atom("p", y), atom("q", x, y)),
		rule(atom("p", v(greatestInt)), atom("q", v(greatestInt))),
	}
	for _, a := range wrongAtoms() {
		out = append(out, rule(a), rule(atom("p"), a), rule(atom("p"), atom("q"), a), with(rule(a, a), test(9, x, x)))
	}
	for _, op := range []int{leastInt, -1, 0, 5, 257, 258, greatestInt} {
		out = append(out, with(rule(atom("p")), test(op, num(1), num(1))))
	}
	for _, w := range append(notTerms(), none) {
		out = append(out, with(rule(atom("p")), test(1, w, num(1))), with(rule(atom("p")), test(1, num(1), num(1)), test(1, num(1), w)))
	}
	return out
}

func TestWhatIsNotValidIsNotWritten(t *testing.T) {
	for _, a := range wrongAtoms() {
		want := term.CheckAtom(a)
		if want == api.OK {
			t.Fatalf("the sample %+v is valid", a)
		}
		atoms().wantNotWritten(t, "P6.1", a, want)
	}
	for _, c := range wrongClauses() {
		want := clause.Check(c)
		if want == api.OK {
			t.Fatalf("the sample %+v is valid", c)
		}
		clauses().wantNotWritten(t, "P6.1", c, want)
		sets().wantNotWritten(t, "P6.1", list(rule(atom("zz")), c, rule(atom("aa"))), want)
		proofs().wantNotWritten(t, "P6.1", proof(list(rule(atom("zz")), c), step(0, nil)), want)
	}
	clauses().wantNotWritten(t, "P6.1", rule(atom("p", v(0))), api.ErrSafe)
	atoms().wantNotWritten(t, "P6.1", says(num(5), "p", nTimes(9, none)...), api.ErrArity)
}

// TestSetsInAnyOrder: and with doubles.
func TestSetsInAnyOrder(t *testing.T) {
	r := newChosen(65)
	for _, set := range validSets() {
		want := joined(setParts(set))
		mixed := slices.Concat(set, set)
		for range 3 {
			r.Shuffle(len(mixed), func(i, j int) { mixed[i], mixed[j] = mixed[j], mixed[i] })
			sets().wantWritten(t, "P6.1", mixed, want)
		}
		reversed := slices.Clone(set)
		slices.Reverse(reversed)
		sets().wantWritten(t, "P6.1", reversed, want)
	}
}

// TestSetsErrorIsTheLeastClauses: whatever order they are handed in in; R5.
func TestSetsErrorIsTheLeastClauses(t *testing.T) {
	wrong := wrongClauses()
	for _, a := range wrong {
		for _, b := range wrong {
			least := a
			if clause.Compare(b, a) < 0 {
				least = b
			}
			sets().wantNotWritten(t, "P6.1", list(a, rule(atom("aa")), b), clause.Check(least))
		}
	}
	ahead, behind := rule(atom("p", v(0))), with(rule(atom("q")), test(9, num(1), num(1)))
	sets().wantNotWritten(t, "P6.1", list(behind, ahead), api.ErrSafe)
	sets().wantNotWritten(t, "P6.1", list(ahead, behind), api.ErrSafe)
}

// TestDerivationsErrorIsTheFirstRules: in the list's order, which isn't that of clauses; ahead of all that is wrong with steps.
func TestDerivationsErrorIsTheFirstRules(t *testing.T) {
	ahead, behind := rule(atom("p", v(0))), with(rule(atom("q")), test(9, num(1), num(1)))
	ok := rule(atom("ok"))
	for _, steps := range [][]api.Step{nil, {step(0, nil)}, {step(-1, []api.Term{v(0)}, -1)}} {
		proofs().wantNotWritten(t, "P6.1", proof(list(ok, behind, ahead), steps...), api.ErrTest)
		proofs().wantNotWritten(t, "P6.1", proof(list(ok, ahead, behind), steps...), api.ErrSafe)
		proofs().wantNotWritten(t, "P6.1", proof(list(ok, ok, behind), steps...), api.ErrTest)
	}
}

// TestStepsThatCantBeSo: wherever they stand.
func TestStepsThatCantBeSo(t *testing.T) {
	good := step(0, []api.Term{num(1), txt("")}, 0, 1)
	wrong := []api.Step{step(-1, nil), step(leastInt, nil), step(0, nil, -1), step(0, nil, leastInt), step(0, nil, 1, -1), step(0, nil, -1, 1), step(-1, good.Vals, good.Uses...)}
	for _, x := range slices.Concat(notTerms(), variables(), []api.Term{none}) {
		wrong = append(wrong, step(0, []api.Term{x}), step(0, []api.Term{num(1), x}, 0), step(0, []api.Term{x, num(1)}))
	}
	for _, s := range wrong {
		for _, steps := range [][]api.Step{{s}, {good, s}, {s, good}, {good, s, good}} {
			proofs().wantNotWritten(t, "P6.1", proof(list(rule(atom("ok"))), steps...), api.ErrCode)
			proofs().wantNotWritten(t, "P6.1", proof(nil, steps...), api.ErrCode)
		}
	}
}
