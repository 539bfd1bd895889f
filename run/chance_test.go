package run_test

import (
	"math/rand"
	"slices"
	"strings"
	"testing"

	"hearsay/api"
	"hearsay/digest"
	"hearsay/eval"
	"hearsay/run"
	"hearsay/script"
	"hearsay/syntax"
	"hearsay/world"
)

// Scripts by chance, the same at every run. Who writes one looks at a world of its own, so that most lines mean something.

type chosen struct{ *rand.Rand }

func newChosen(seed int64) *chosen { return &chosen{rand.New(rand.NewSource(seed))} }

func one[T any](c *chosen, of ...T) T { return of[c.Intn(len(of))] }

type writer struct {
	*chosen
	w    *world.World
	ids  []string       // of certificates that were told
	last map[int]api.Do // by its kind the last step that was told OK
	told map[int]int    // and the number that it was told
}

func someWhos() []string { return texts("ann", "bob", "cy", "A\nb", "says", "\xff") }

// who: mostly one that has a context.
func (c *writer) who() string {
	if l := c.w.Names(); len(l) > 0 && c.Intn(20) > 0 {
		return one(c.chosen, l...)
	}
	return one(c.chosen, append(someWhos(), "", "zoe", strings.Repeat("x", 65))...)
}

// clauseTexts: few names and constants, so that clauses feed each other.
func clauseTexts() []string {
	return texts(
		"p(a).", "p(b).", "p(1).", "p(\"x\ny\").", "q(c).", "t.", "e(a, b).", "e(b, c).", "q(X) :- p(X).", "q(X) :- ann says p(X).", "p(X) :- bob says p(X).", "p(X) :- W says q(X), X != b.", "p(Y) :- p(X), e(X, Y).",
		"ok(X) :- W says p(X).", "ok(X) :- q(X), p(X).", "t :- p(X), q(X).", "ann says p(a).", "bob says q(X) :- bob says p(X).", "cy says p(X) :- q(X).", "p(X) :- q(X), X < b.", "q(X) :- p(X); (ann says t, e(X, Y)).", "\"A\nb\" says t.",
	)
}

func badTexts() []string {
	return texts("p(", "p(X).", "p(a). r :- .", "p(a). p(\"", "a:b", "\"\" says p(a).", "p(a)", ")", "", "% so\n")
}

func queryTexts() []string {
	return texts("p(X)?", "W says p(X)?", "q(X)?", "ok(X)?", "t?", "e(X, Y)?", "p(a)?", "bob says q(X)?", "q(a)?", "ann says p(a)?", "p(b)?", "W says t?")
}

func (c *writer) clausesOf(who string) []api.Clause {
	return c.w.Do(api.Do{Kind: api.DoClauses, Who: who}).Clauses
}

// fact: the text of a fact of the context's model, if it has one.
func (c *writer) fact(who string) string {
	if m, _ := eval.Whole(c.clausesOf(who)); len(m.Facts) > 0 && c.Intn(6) > 0 {
		return syntax.PrintAtom(one(c.chosen, m.Facts...).Fact)
	}
	return strings.TrimSuffix(one(c.chosen, queryTexts()...), "?")
}

func (c *writer) program(who string, own bool) string {
	var l []string
	for range one(c.chosen, 0, 1, 1, 2, 3, 5) {
		l = append(l, one(c.chosen, clauseTexts()...))
		if cs, _ := c.w.Own(who); own && len(cs) > 0 && c.Intn(5) > 0 {
			l[len(l)-1] = syntax.Print(one(c.chosen, cs...))
		}
	}
	if c.Intn(15) == 0 {
		l = append(l, one(c.chosen, badTexts()...))
	}
	return strings.Join(l, " ")
}

func (c *writer) exported(who string) string {
	if cs, _ := c.w.Own(who); len(cs) > 0 && c.Intn(2) == 0 {
		return syntax.Print(one(c.chosen, cs...))
	}
	if c.Intn(3) > 0 {
		return c.fact(who) + "."
	}
	return one(c.chosen, append(clauseTexts(), badTexts()...)...)
}

func (c *writer) query(who string) string {
	switch c.Intn(7) {
	case 0:
		return one(c.chosen, badTexts()...)
	case 1, 2, 3:
		return c.fact(who) + "?"
	}
	return one(c.chosen, queryTexts()...)
}

// message: mostly one that is there.
func (c *writer) message() int {
	if l := c.w.Waiting(); len(l) > 0 && c.Intn(10) > 0 {
		return one(c.chosen, l...).N
	}
	return one(c.chosen, -1, 0, 1, 2, 5, leastInt, greatestInt)
}

// sent: mostly the last message of a step of this kind.
func (c *writer) sent(kind int) int {
	if n, there := c.told[kind]; there && c.Intn(3) > 0 {
		return n
	}
	return c.message()
}

// taker: mostly one that took a certificate.
func (c *writer) taker() string {
	for _, who := range c.w.Names() {
		if l, _ := c.w.Certs(who); len(l) > 0 && c.Intn(3) > 0 {
			return who
		}
	}
	return c.who()
}

func (c *writer) fuel() int {
	return one(c.chosen, leastInt, 0, 1, 2, 3, 4, 9, 9, 100, 100, greatestInt)
}

// certId: of a certificate that the context took, or of another one.
func (c *writer) certId(who string) string {
	if l, _ := c.w.Certs(who); len(l) > 0 && c.Intn(4) > 0 {
		return digest.Hex(digest.Sum(one(c.chosen, l...)))
	}
	return one(c.chosen, append(slices.Clone(c.ids), "", "zz", strings.Repeat("0", 64))...)
}

func (c *writer) journalLength(who string) int {
	b, _ := c.w.Journal(who)
	return one(c.chosen, greatestInt, len(b), len(b)-1, len(b)*2/3, c.Intn(len(b)+1), 0, -1)
}

// step: any of the table's, those that give things to tell more often.
func (c *writer) step() api.Do {
	if len(c.w.Names()) < 2 || c.Intn(25) == 0 {
		return api.Do{Kind: api.DoEnroll, Who: one(c.chosen, someWhos()...)}
	}
	kind := one(c.chosen, append(kinds(), api.DoAssert, api.DoAssert, api.DoAssert, api.DoExport, api.DoExport, api.DoImport, api.DoImport, api.DoQuery, api.DoQuery, api.DoNews, api.DoProve, api.DoShow, api.DoForget)...)
	d := api.Do{Kind: kind}
	switch kind {
	case api.DoDrop, api.DoCopy:
		d.N = c.message()
	case api.DoSwap:
		d.N, d.M = c.message(), c.message()
	case api.DoFlip, api.DoCut:
		d.N, d.M = c.message(), one(c.chosen, -1, 0, 9, 40, 60, 1000)
		if kind == api.DoFlip {
			d.K = one(c.chosen, 0, 1, -1, 255, 256)
		}
	case api.DoForge:
		d.Bytes = []byte(one(c.chosen, "x", "HSC1", allBytes(), "\n"))
	case api.DoWaiting:
	default:
		d.Who = c.who()
		return c.byWho(d)
	}
	return d
}

func (c *writer) byWho(d api.Do) api.Do {
	switch d.Kind {
	case api.DoAssert, api.DoRetract:
		d.Text = c.program(d.Who, d.Kind == api.DoRetract)
	case api.DoExport:
		d.Text, d.N = c.exported(d.Who), c.fuel()
	case api.DoImport:
		d.N = c.sent(api.DoExport)
	case api.DoShow:
		d.N = c.sent(api.DoProve)
		if last, there := c.last[api.DoProve]; there && c.Intn(3) > 0 {
			d.Who = last.Who
		}
	case api.DoForget:
		d.Who = c.taker()
		d.Text = c.certId(d.Who)
	case api.DoQuery:
		d.Text, d.N = c.query(d.Who), c.fuel()
	case api.DoProve:
		d.Text, d.N = c.fact(d.Who)+"?", c.fuel()
	case api.DoAsk, api.DoWatch:
		d.Text = c.query(d.Who)
	case api.DoWhy:
		d.Text = c.fact(d.Who) + "?"
	case api.DoNews:
		d.N = one(c.chosen, 1, 1, 1, 2, 2, 3, 0)
	case api.DoLoss:
		d.To = one(c.chosen, append(c.w.Names(), "zoe", "")...)
	case api.DoCrash:
		d.M = c.journalLength(d.Who)
	}
	return d
}

// refusedLine: one that says no step.
func (c *chosen) refusedLine() string {
	return one(c, "frob", "enroll", "enroll ann bob", "enroll \"ann", "drop 007", "!", "waiting 1", "Query bob", "assert ann p", "\"", "flip 1 2", strings.Repeat("x", api.MaxLine+1), "news ann \"1\"", "forge \"\\q\"")
}

// line: a step's, or one that says none. The writer's world does the step.
func (c *writer) line() string {
	if c.Intn(20) == 0 {
		return c.refusedLine()
	}
	d := c.step()
	line, ok := script.Print(d)
	if !ok {
		panic(d)
	}
	t := c.w.Do(d)
	if t.Id != (api.Digest{}) {
		c.ids = append(c.ids, digest.Hex(t.Id))
	}
	if t.Err == api.OK {
		c.last[d.Kind], c.told[d.Kind] = d, t.N
	}
	return line
}

// lines: so many, none of them blank.
func (c *chosen) lines(n int) []string {
	w := &writer{chosen: c, w: world.New([]byte("s")), last: map[int]api.Do{}, told: map[int]int{}}
	var out []string
	for range n {
		out = append(out, w.line())
	}
	return out
}

// blankLines: a few, or none.
func (c *chosen) blankLines() string {
	text := ""
	for c.Intn(4) == 0 {
		text += one(c, "", " ", "\t\r", "% so", "  % enroll ann", "%\"", strings.Repeat(" ", c.Intn(40)), "\r", "%!\x00\xff% 007") + "\n"
	}
	return text
}

// dressed: the lines, with blank ones between, and remarks and blanks at their sides; each says what it said.
func (c *chosen) dressed(lines []string) string {
	text := c.blankLines()
	for _, l := range lines {
		if c.Intn(3) == 0 && plainSays(l) {
			l = one(c, "", " ", "\t\r ") + l + one(c, "", " ", "\r", " % so", "%", "\t%\"frob\x00")
		}
		text += l + "\n" + c.blankLines()
	}
	if c.Intn(2) == 0 {
		text = strings.TrimSuffix(text, "\n")
	}
	return text
}

// plainSays: does the line say a step?
func plainSays(line string) bool {
	_, f := script.Read(line)
	return f.Err == api.OK
}

func (c *chosen) script(n int) string { return c.dressed(c.lines(n)) }

// TestScriptsByChance: P26.5, P26.1, P26.3: what is told is what world.Play answers of the steps that the lines say, told by the chapter's words.
func TestScriptsByChance(t *testing.T) {
	c := newChosen(261)
	seen := map[string]int{}
	for range 400 {
		text := c.script(one(c, 5, 20, 40, 80))
		got := run.Run("s", text)
		wantLines(t, "P26.5", text, got, plainRun("s", text))
		countKinds(text, seen)
	}
	for _, kind := range kinds() {
		name, _, _ := strings.Cut(mustPrint(t, api.Do{Kind: kind}), " ")
		if seen[name+" ok"] < 20 || kind != api.DoWaiting && kind != api.DoForge && seen[name+" refused"] < 3 {
			t.Errorf("the chances are too uneven: %s is told ok %d times, a refusal %d times", name, seen[name+" ok"], seen[name+" refused"])
		}
	}
}

func mustPrint(t *testing.T, d api.Do) string {
	t.Helper()
	line, ok := script.Print(d)
	if !ok {
		t.Fatalf("no line of the kind %d", d.Kind)
	}
	return line
}

// countKinds: of each name how often a step of it is told OK, and how often it is refused.
func countKinds(text string, seen map[string]int) {
	_, steps := plainRead(text)
	for i, told := range world.Play([]byte("s"), steps) {
		line, _ := script.Print(steps[i])
		name, _, _ := strings.Cut(line, " ")
		if told.Err == api.OK {
			seen[name+" ok"]++
		} else {
			seen[name+" refused"]++
		}
	}
}
