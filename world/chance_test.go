package world_test

import (
	"fmt"
	"math/rand"
	"slices"
	"strings"
	"testing"

	"hearsay/api"
	"hearsay/eval"
	"hearsay/syntax"
	"hearsay/world"
)

// Scripts of all kinds of steps by chance, beside the layers called one by one.

// chosen: what comes by chance, the same at every run.
type chosen struct{ *rand.Rand }

func newChosen(seed int64) *chosen { return &chosen{rand.New(rand.NewSource(seed))} }

func one[T any](c *chosen, of ...T) T { return of[c.Intn(len(of))] }

// clauseTexts: few names and constants, so that clauses feed each other.
func clauseTexts() []string {
	return texts(
		"p(a).", "p(b).", "p(1).", "q(c).", "t.", "e(a, b).", "e(b, c).", "q(X) :- p(X).", "q(X) :- ann says p(X).", "p(X) :- bob says p(X).", "p(X) :- W says q(X), X != b.", "p(Y) :- p(X), e(X, Y).",
		"ok(X) :- W says p(X).", "ok(X) :- q(X), p(X).", "t :- p(X), q(X).", "ann says p(a).", "bob says q(X) :- bob says p(X).", "cy says p(X) :- q(X).", "p(X) :- q(X), X < b.",
	)
}

func badTexts() []string {
	return texts("p(", "p(X).", "p(a). r :- .", "p(a). p(\"", "a:b", "\"\" says p(a).", "p(a)", ")", "", long(33)+"?")
}

func queryTexts() []string {
	return texts("p(X)?", "W says p(X)?", "q(X)?", "ok(X)?", "t?", "e(X, Y)?", "p(a)?", "bob says q(X)?", "q(a)?", "ann says p(a)?", "p(b)?", "ok(a)?")
}

// who: mostly one that has a context.
func (c *chosen) who(p *plainWorld) string {
	if len(p.all) == 0 || c.Intn(15) == 0 {
		return one(c, "ann", "bob", "cy", "zoe", "", long(65))
	}
	return one(c, p.all...).name
}

// fact: the text of a fact of the context's model, if it has one.
func (c *chosen) fact(y *plainParty) string {
	if y != nil && c.Intn(6) > 0 {
		if m, _ := eval.Whole(y.x.Clauses()); len(m.Facts) > 0 {
			return syntax.PrintAtom(one(c, m.Facts...).Fact)
		}
	}
	return strings.TrimSuffix(one(c, queryTexts()...), "?")
}

// program: of own clauses of the context, if there are any, or of others; sometimes with a fault.
func (c *chosen) program(y *plainParty, own bool) string {
	var l []string
	for range one(c, 0, 1, 1, 2, 3) {
		l = append(l, one(c, clauseTexts()...))
		if own && y != nil && c.Intn(5) > 0 {
			if cs := y.x.Own(); len(cs) > 0 {
				l[len(l)-1] = syntax.Print(one(c, cs...))
			}
		}
	}
	if c.Intn(12) == 0 {
		l = append(l, one(c, badTexts()...))
	}
	return strings.Join(l, " ")
}

// exported: a clause of the context's, a fact of its model, or anything.
func (c *chosen) exported(y *plainParty) string {
	switch c.Intn(4) {
	case 0:
		if y != nil && len(y.x.Own()) > 0 {
			return syntax.Print(one(c, y.x.Own()...))
		}
	case 1:
		return c.fact(y) + "."
	case 2:
		return one(c, append(clauseTexts(), badTexts()...)...)
	}
	return one(c, "p(a).", "p(b).", "q(X) :- p(X).", "e(a, b).")
}

func (c *chosen) query(y *plainParty) string {
	switch c.Intn(6) {
	case 0:
		return one(c, badTexts()...)
	case 1, 2:
		return c.fact(y) + "?"
	}
	return one(c, queryTexts()...)
}

// message: mostly one that is there.
func (c *chosen) message(p *plainWorld) int {
	if l := p.wire.Waiting(); len(l) > 0 && c.Intn(8) > 0 {
		return one(c, l...).N
	}
	return one(c, -1, 0, p.given, p.given+1, 1, leastInt, greatestInt)
}

func (c *chosen) fuel() int { return one(c, leastInt, 0, 1, 2, 3, 4, 5, 9, 100, greatestInt) }

func (c *chosen) id(y *plainParty) string {
	if y != nil && c.Intn(4) > 0 {
		if l := y.x.Certs(); len(l) > 0 {
			return hexOf(idOf(string(one(c, l...))))
		}
	}
	return one(c, append(noDigests(), hexOf(api.Digest{7}), hexOf(idOf(certificate("s", "ann", "p(a)."))))...)
}

// bytes: of messages that were forged: certificates with right seals, whether they were issued or not; and anything.
func (c *chosen) bytes(p *plainWorld) string {
	switch c.Intn(4) {
	case 0:
		return certificate("s", one(c, "ann", "bob", "cy"), one(c, "p(a).", "p(b).", "q(X) :- p(X).", "t."))
	case 1:
		if l := p.wire.Waiting(); len(l) > 0 {
			b := string(one(c, l...).Bytes)
			return b + one(c, "", "", "x", b)
		}
	}
	return one(c, "", "x", "HSC1", "HSB1\x00")
}

// length: of a journal's beginning; mostly all of it.
func (c *chosen) length(y *plainParty) int {
	if y == nil || c.Intn(3) == 0 {
		return one(c, -1, 0, 40, leastInt, greatestInt, greatestInt, greatestInt)
	}
	all := ends(y.name, y.l)
	end := one(c, all[len(all)*2/3:]...)
	return end + one(c, -1, 0, 0, 0, 1, 20)
}

// step: of a kind, with what belongs to it.
func (c *chosen) step(kind int, p *plainWorld) api.Do {
	d := api.Do{Kind: kind}
	if !slices.Contains(ints(api.DoDrop, api.DoCopy, api.DoSwap, api.DoFlip, api.DoCut, api.DoForge, api.DoWaiting), kind) {
		d.Who = c.who(p)
	}
	y := p.of(d.Who)
	switch kind {
	case api.DoEnroll:
		d.Who = one(c, "ann", "bob", "cy", "dan", "eve", "", long(64), long(65), d.Who)
	case api.DoAssert, api.DoRetract:
		d.Text = c.program(y, kind == api.DoRetract)
	case api.DoExport:
		d.Text, d.N = c.exported(y), c.fuel()
	case api.DoImport, api.DoShow, api.DoDrop, api.DoCopy:
		d.N = c.message(p)
	case api.DoForget:
		d.Text = c.id(y)
	case api.DoQuery, api.DoProve:
		d.Text, d.N = c.query(y), c.fuel()
	case api.DoAsk, api.DoWatch, api.DoWhy:
		d.Text = c.query(y)
	case api.DoNews:
		d.N = one(c, 0, 1, 1, 2, 3, 4)
	case api.DoLoss:
		d.To = one(c, "ann", "bob", "cy", "", "nobody")
	case api.DoSwap, api.DoFlip, api.DoCut:
		d.N, d.M, d.K = c.message(p), one(c, c.message(p), c.Intn(60)), one(c, 0, 1, 255, -1, 4)
	case api.DoForge:
		d.Bytes = []byte(c.bytes(p))
	case api.DoCrash:
		d.M = c.length(y)
	}
	return d
}

// next: mostly steps by which something comes about, so that the others find it.
func (c *chosen) next(p *plainWorld) api.Do {
	kind := 1 + c.Intn(24)
	if c.Intn(2) == 0 {
		kind = one(c, api.DoAssert, api.DoExport, api.DoImport, api.DoProve, api.DoShow, api.DoQuery, api.DoNews)
	}
	if slices.Contains(ints(api.DoCrash, api.DoDrop, api.DoCut, api.DoFlip), kind) && c.Intn(2) == 0 {
		kind = api.DoWatch
	}
	return c.step(kind, p)
}

// script: that many steps of a twin, which answers them on the way; they are looked at now and then.
func (c *chosen) script(x *twin, count int, each func(api.Do, api.Told)) []api.Do {
	var l []api.Do
	for range count {
		d := c.next(x.p)
		l = append(l, d)
		each(d, x.do(d))
		if c.Intn(6) == 0 {
			x.look()
		}
	}
	x.look()
	return l
}

// beginnings: of scripts by chance.
func beginnings() [][]api.Do {
	some := steps(doEnroll("ann"), doEnroll("bob"), doEnroll("cy"))
	return [][]api.Do{nil, some, append(some, doAssert("ann", "p(a). p(b). q(X) :- p(X). ok(X) :- W says p(X)."), doAssert("bob", "p(X) :- ann says p(X). q(X) :- p(X). e(a, b)."), doExport("ann", "p(a).", 0), doExport("ann", "q(b).", 9), doExport("bob", "q(X) :- p(X).", 0), doCopy(1), doImport("bob", 1))}
}

func TestScripts(t *testing.T) {
	tallies := make([]map[string]int, 8)
	t.Run("all", func(t *testing.T) {
		for part := range tallies {
			told := map[string]int{}
			tallies[part] = told
			t.Run(fmt.Sprint("part ", part), func(t *testing.T) {
				t.Parallel()
				for i := range 40 {
					seed := int64(8*i + part)
					x := newTwin(t, "s", beginnings()[i%3]...)
					newChosen(seed).script(x, 150, func(d api.Do, got api.Told) { told[fmt.Sprint(d.Kind, " ", got.Err)]++ })
					if t.Failed() {
						t.Fatalf("the script of seed %d", seed)
					}
				}
			})
		}
	})
	all := map[string]int{}
	for _, told := range tallies {
		for what, n := range told {
			all[what] += n
		}
	}
	wantManySorts(t, all)
}

// wantManySorts: each kind was told OK, and its errors, often enough.
func wantManySorts(t *testing.T, told map[string]int) {
	t.Helper()
	for kind := api.DoEnroll; kind <= api.DoRedundant; kind++ {
		if n := told[fmt.Sprint(kind, " 0")]; n < 200 {
			t.Errorf("too much alike: %d steps of the kind %d were told OK", n, kind)
		}
	}
	for _, what := range texts("1 36", "1 181", "2 51", "2 34", "2 241", "3 202", "3 51", "4 201", "4 37", "4 103", "4 51", "4 241", "5 231", "5 191", "5 192", "5 62", "6 11", "6 203", "7 51", "7 103", "8 51", "9 51", "10 204", "11 81", "11 111", "11 51", "12 36", "13 103", "13 111", "13 81", "14 127", "14 211", "14 231", "15 241", "16 231", "17 231", "18 231", "19 231", "19 232", "20 232", "23 241", "24 151") {
		if told[what] < 20 {
			t.Errorf("too much alike: the kind and the error %s: %d times", what, told[what])
		}
	}
}

// TestScriptsOnTwoWorlds: steps in the one and the other by chance; each is beside its own plain one.
func TestScriptsOnTwoWorlds(t *testing.T) {
	for seed := range int64(20) {
		c := newChosen(1000 + seed)
		both := []*twin{newTwin(t, "s", beginnings()[2]...), newTwin(t, one(c, "s", "t"), beginnings()[2]...)}
		for range 100 {
			x := one(c, both...)
			x.do(c.next(x.p))
		}
		for _, x := range both {
			x.look()
		}
	}
}

// TestRefusedByChance: T2: of scripts by chance the steps that are refused, and the looks, are left out: the others are told the same, and the same is there in the end.
func TestRefusedByChance(t *testing.T) {
	leftOut := 0
	for seed := range int64(60) {
		c := newChosen(2000 + seed)
		x := newTwin(t, "s", beginnings()[seed%3]...)
		w := worldOf(t, beginnings()[seed%3]...)
		c.script(x, 150, func(d api.Do, got api.Told) {
			if got.Err != api.OK || slices.Contains(looks(), d.Kind) {
				leftOut++
				return
			}
			wantTold(t, w, d, got)
		})
		if seen(w) != seen(x.w) {
			t.Errorf("T2: without what was refused: %s", unlike(seen(x.w), seen(w)))
		}
		for _, p := range probes() {
			wantTold(t, w, p, x.w.Do(p))
		}
	}
	if leftOut < 3000 {
		t.Errorf("too much alike: %d steps were left out", leftOut)
	}
}

// TestFewByChance: P24.6: behind each step of scripts by chance.
func TestFewByChance(t *testing.T) {
	changed := map[int]int{}
	for seed := range int64(60) {
		c := newChosen(3000 + seed)
		x := newTwin(t, "s", beginnings()[1+seed%2]...)
		clauses, digests := clausesOf(x.w), digestsOf(x.w)
		c.script(x, 120, func(d api.Do, _ api.Told) {
			clausesAfter, digestsAfter := clausesOf(x.w), digestsOf(x.w)
			wantFew(t, d, clauses, clausesAfter, digests, digestsAfter)
			if clausesAfter[d.Who] != clauses[d.Who] {
				changed[d.Kind]++
			}
			clauses, digests = clausesAfter, digestsAfter
		})
	}
	for _, kind := range changing()[1:] {
		if changed[kind] < 20 {
			t.Errorf("too much alike: the kind %d has changed clauses %d times", kind, changed[kind])
		}
	}
}

// TestPlay: P24.5: what Do answers of each step, one behind the other, in a new world; of no steps nothing.
func TestPlay(t *testing.T) {
	for _, secret := range secrets() {
		if l := world.Play([]byte(secret), nil); len(l) != 0 {
			t.Errorf("P24.5: of no steps: %v", l)
		}
		wantPlay(t, secret, append(richSteps(), probes()...))
	}
	var every []api.Do
	for kind := range 26 {
		every = append(every, sampleSteps()[kind]...)
	}
	wantPlay(t, "s", append(richSteps(), every...))
	for seed := range int64(40) {
		c := newChosen(4000 + seed)
		x := newTwin(t, "s", beginnings()[seed%3]...)
		wantPlay(t, one(c, secrets()...), append(slices.Clone(beginnings()[seed%3]), c.script(x, 100, func(api.Do, api.Told) {})...))
	}
}

// wantPlay: held against Do, one by one; twice the same.
func wantPlay(t *testing.T, secret string, l []api.Do) {
	t.Helper()
	first, second := world.Play([]byte(secret), l), world.Play([]byte(secret), l)
	if len(first) != len(l) || len(second) != len(l) {
		t.Fatalf("P24.5: of %d steps %d and %d are told", len(l), len(first), len(second))
	}
	w := world.New([]byte(secret))
	for i, d := range l {
		want := w.Do(d)
		if !sameTold(first[i], want) || !sameTold(second[i], want) {
			t.Errorf("P24.5: Play tells of step %d, %s: %s and %s, Do %s", i, shownDo(d), shownTold(first[i]), shownTold(second[i]), shownTold(want))
		}
	}
}
