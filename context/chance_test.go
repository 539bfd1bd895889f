package context_test

import (
	"fmt"
	"math/rand"
	"slices"
	"strings"
	"testing"

	"hearsay/api"
	"hearsay/cert"
	"hearsay/clause"
	"hearsay/context"
	"hearsay/keys"
	"hearsay/syntax"
)

// P20.2 to P20.16: scripts by chance over several contexts of one ring, each held against the chapter's words.

// chosen: what comes by chance, the same at every run.
type chosen struct{ *rand.Rand }

func newChosen(seed int64) *chosen { return &chosen{rand.New(rand.NewSource(seed))} }

func one[T any](c *chosen, of ...T) T { return of[c.Intn(len(of))] }

// clauseTexts: few names and constants, so that clauses feed each other; among them such as are the quote of another, or have one quote.
func clauseTexts() []string {
	return texts(
		"p(a).", "p(b).", "p(1).", "q(c).", "t.", "p(a). p(b).", "e(a, b).", "e(b, c).", "e(c, a).",
		"q(X) :- p(X).", "q(X) :- ann says p(X).", "q(X) :- bob says p(X).", "p(X) :- W says q(X), X != b.", "p(X) :- q(X), X < b.", "p(Y) :- p(X), e(X, Y).",
		"ok(X) :- W says p(X).", "ok(X) :- q(X), W says q(X).", "t :- p(X), q(X); 1 < 2, ok(a).", "t :- 2 < 1.", "e(X, Z) :- e(X, Y), e(Y, Z), X != Z.",
		"ann says p(a).", "ann says q(X) :- ann says p(X).", "bob says q(X) :- bob says p(X).", "bob says ok(X) :- ok(X), t.", "carl says p(X) :- q(X).",
	)
}

// badTexts: of programs, clauses and queries alike.
func badTexts() []string {
	return texts("p(", "p(X).", "p(a). r :- .", "p(a). p(\"", "a:b", "\"\" says p(a).", "p(b). q(X) :- p(Y).", "p(a)", ")", "p(a). p(b), p(c).")
}

// queryTexts: single predicates and such as have answers of several principals.
func queryTexts() []string {
	return append(lookQueries(), "e(X, Y)?", "e(X, X)?", "p(a)?", "ann says q(X)?", "bob says p(X)?", "W says ok(W)?", "carl says p(c)?")
}

// program: one to four clauses' texts, sometimes with a fault among them.
func (c *chosen) program(from []string) string {
	var l []string
	for range one(c, 0, 1, 1, 1, 2, 2, 3, 4) {
		l = append(l, one(c, from...))
	}
	if c.Intn(12) == 0 {
		l = append(l, one(c, badTexts()...))
	}
	return strings.Join(l, one(c, " ", "\n", "  % so\n"))
}

// ownTexts: of a context's own clauses, with some others.
func (c *chosen) ownTexts(own []api.Clause) []string {
	l := append(told(own), told(own)...)
	return append(l, one(c, clauseTexts()...))
}

func (c *chosen) query() string {
	if c.Intn(12) == 0 {
		return one(c, badTexts()...)
	}
	return one(c, queryTexts()...)
}

func (c *chosen) fuel() int {
	return one(c, -1, 0, 1, 2, 3, 3, 4, 4, 5, 6, 7, 9, 100, 5001, leastInt, greatestInt)
}

// clauseText: an own clause, a fact that might follow, or something else.
func (c *chosen) clauseText(p *plain) string {
	l := append(told(p.own), one(c, clauseTexts()...), one(c, badTexts()...), "q(a).", "q(b).", "ok(a).", "t.", "e(a, c).", "p(c).")
	return one(c, l...)
}

// bytes: mostly what was issued, sometimes spoilt, with another's seal, or only worked out.
func (c *chosen) bytes(r *plainRing) string {
	worked := sealed(r.secret, "bob", "HSC1\x03bob\x00\x01w\x00\x00\x00")
	if len(r.issued) == 0 {
		return worked
	}
	b, other := one(c, r.issued...), one(c, r.issued...)
	switch c.Intn(16) {
	case 0:
		return b[:c.Intn(len(b))]
	case 1:
		return b + string(rune(c.Intn(128)))
	case 2:
		l := []byte(b)
		l[c.Intn(len(l))] ^= byte(1 << c.Intn(8))
		return string(l)
	case 3:
		return bodyOf(b) + other[len(other)-32:]
	case 4:
		return worked
	}
	return b
}

func (c *chosen) id(p *plain) api.Digest {
	switch {
	case len(p.certs) > 0 && c.Intn(4) > 0:
		return sum(one(c, p.certs...))
	case len(p.ring.issued) > 0 && c.Intn(2) > 0:
		return sum(one(c, p.ring.issued...))
	}
	return one(c, never, api.Digest{})
}

// record: of a kind, with what belongs to it; sometimes with more.
func (c *chosen) record(p *plain) api.Record {
	r := api.Record{Kind: one(c, api.RecAssert, api.RecAssert, api.RecRetract, api.RecTake, api.RecTake, api.RecForget)}
	switch r.Kind {
	case api.RecAssert:
		said, _ := syntax.Program(one(c, clauseTexts()...))
		r.Clause = one(c, append(said, one(c, invalid()...))...)
	case api.RecRetract:
		r.Clause = one(c, append(slices.Clone(p.own), clauseAt(one(c, clauseTexts()...)))...)
	case api.RecTake:
		r.Bytes = []byte(c.bytes(p.ring))
	case api.RecForget:
		r.Id = c.id(p)
	}
	if c.Intn(5) == 0 {
		one(c, slices.Concat(bytesPart(), idPart(), clausePart(), []part{{"", func(r *api.Record) { r.Kind = c.Intn(9) - 2 }}})...).fill(&r)
	}
	return r
}

func clauseAt(text string) api.Clause {
	said, _ := syntax.Program(text)
	return said[0]
}

// pair: a context beside the plain one.
type pair struct {
	t *testing.T
	x *context.Context
	p *plain
	// since: by watch, the answers at its beginning with what all News told taken away and put in.
	since [][]api.Atom
}

// scene: contexts of one ring, beside the plain ones.
type scene struct {
	t     *testing.T
	r     *keys.Ring
	plain *plainRing
	pairs []*pair
	told  map[string]int // how often a call was answered so
}

// newScene: ann and bob have a context each, bob a second one; carl has none.
func newScene(t *testing.T) *scene {
	s := &scene{t: t, r: ringOf(t, "s", "ann", "bob", "carl"), plain: &plainRing{secret: "s", names: texts("ann", "bob", "carl")}, told: map[string]int{}}
	for _, name := range texts("ann", "bob", "bob") {
		s.pairs = append(s.pairs, &pair{t: t, x: newContext(t, s.r, name), p: &plain{ring: s.plain, name: name}})
	}
	return s
}

// want: what the context answers, as a text, is what the plain one does.
func (s *scene) want(what string, got, want string, err api.Errno) {
	s.t.Helper()
	if got != want {
		s.t.Errorf("%s is\n%s\nwant\n%s", what, got, want)
	}
	s.told[fmt.Sprint(strings.SplitN(what, "(", 2)[0], " ", err)]++
}

// step: a call by chance.
func (s *scene) step(c *chosen) {
	s.t.Helper()
	y := one(c, s.pairs...)
	switch c.Intn(15) {
	case 0, 1:
		s.assert(y, c.program(clauseTexts()))
	case 2:
		s.retract(y, c.program(c.ownTexts(y.p.own)))
	case 3, 4:
		s.export(y, c.clauseText(y.p), c.fuel())
	case 5, 6:
		s.take(y, c.bytes(s.plain))
	case 7:
		s.forget(y, c.id(y.p))
	case 8:
		s.query(y, c.query(), c.fuel())
	case 9:
		s.ask(y, c.query())
	case 10, 11, 12, 13:
		s.watchOrNews(y, c)
	case 14:
		s.play(y, c.record(y.p))
	}
}

func (s *scene) assert(y *pair, text string) {
	s.t.Helper()
	n, f := y.x.Assert(text)
	want, wf := y.p.assert(text)
	s.want(fmt.Sprintf("P20.2: Assert(%q)", text), fmt.Sprint(n, f), fmt.Sprint(want, wf), wf.Err)
}

func (s *scene) retract(y *pair, text string) {
	s.t.Helper()
	n, f := y.x.Retract(text)
	want, wf := y.p.retract(text)
	s.want(fmt.Sprintf("P20.3: Retract(%q)", text), fmt.Sprint(n, f), fmt.Sprint(want, wf), wf.Err)
}

func (s *scene) export(y *pair, text string, fuel int) {
	s.t.Helper()
	b, f := y.x.Export(text, fuel)
	want, wf := y.p.export(text, fuel)
	s.want(fmt.Sprintf("P20.6: Export(%q, %d)", text, fuel), fmt.Sprintf("%x %v", b, f), fmt.Sprintf("%x %v", want, wf), wf.Err)
	for _, name := range s.plain.names {
		if !slices.Equal(s.r.Signed(name), s.plain.signed(name)) {
			s.t.Errorf("P20.6: behind Export(%q, %d): %v: %x are signed by %s, want %x", text, fuel, f, s.r.Signed(name), name, s.plain.signed(name))
		}
	}
}

func (s *scene) take(y *pair, b string) {
	s.t.Helper()
	came, err := y.x.Import([]byte(b))
	want, we := y.p.take(b)
	s.want(fmt.Sprintf("P20.4: Import(%x)", b), fmt.Sprint(came, err), fmt.Sprint(want, we), we)
}

func (s *scene) forget(y *pair, id api.Digest) {
	s.t.Helper()
	err, want := y.x.Forget(id), y.p.forget(id)
	s.want(fmt.Sprintf("P20.5: Forget(%x)", id), fmt.Sprint(err), fmt.Sprint(want), want)
}

func (s *scene) query(y *pair, text string, fuel int) {
	s.t.Helper()
	reply, f := y.x.Query(text, fuel)
	want, wf := y.p.query(text, fuel)
	s.want(fmt.Sprintf("P20.7: Query(%q, %d)", text, fuel), fmt.Sprintf("%+v %v", reply, f), fmt.Sprintf("%+v %v", want, wf), wf.Err)
	if f == ok {
		wantWhole(s.t, y.x, text, reply)
		if answers, g := y.x.Ask(text); g == ok && !same(answers, reply.Answers) {
			s.t.Errorf("P20.14: Ask(%q) is %q, Query %q", text, toldAtoms(answers), toldAtoms(reply.Answers))
		}
	}
	if wf.Err == api.ErrFuel && fuel >= clause.Bound(y.x.Clauses()) {
		s.t.Errorf("P20.14: Query(%q, %d) is refused by ErrFuel", text, fuel)
	}
}

func (s *scene) ask(y *pair, text string) {
	s.t.Helper()
	l, f := y.x.Ask(text)
	want, wf := y.p.ask(text)
	s.want(fmt.Sprintf("P20.8: Ask(%q)", text), fmt.Sprintf("%+v %v", l, f), fmt.Sprintf("%+v %v", want, wf), wf.Err)
}

func (s *scene) watchOrNews(y *pair, c *chosen) {
	s.t.Helper()
	given := len(y.p.watches)
	switch {
	case given < 1+c.Intn(12):
		s.watch(y, c.query())
	case c.Intn(10) == 0:
		s.news(y, one(c, leastInt, -1, 0, given+1, given+2, 64, greatestInt))
	default:
		s.news(y, 1+c.Intn(given))
	}
}

func (s *scene) watch(y *pair, text string) {
	s.t.Helper()
	n, f := y.x.Watch(text)
	want, wf := y.p.watch(text)
	s.want(fmt.Sprintf("P20.9: Watch(%q)", text), fmt.Sprint(n, f), fmt.Sprint(want, wf), wf.Err)
	if f == ok {
		reply, _ := y.x.Query(text, greatestInt)
		y.since = append(y.since, reply.Answers)
	}
}

func (s *scene) news(y *pair, w int) {
	s.t.Helper()
	change, err := y.x.News(w)
	want, we := y.p.news(w)
	s.want(fmt.Sprintf("P20.10: News(%d)", w), fmt.Sprintf("%+v %d", change, err), fmt.Sprintf("%+v %d", want, we), we)
	if err == api.OK {
		y.wantLedBy(w, change)
		s.told["came"] += len(change.Came)
		s.told["gone"] += len(change.Gone)
	}
}

// wantLedBy: P20.16: the answers of the watch's beginning, with all News, are the answers now.
func (y *pair) wantLedBy(w int, change api.Change) {
	y.t.Helper()
	before := y.since[w-1]
	for _, a := range change.Came {
		if hasAtom(before, a) {
			y.t.Errorf("P20.16: %v came, and was there", a)
		}
	}
	for _, a := range change.Gone {
		if !hasAtom(before, a) {
			y.t.Errorf("P20.16: %v is gone, and wasn't there", a)
		}
	}
	now := append(less(before, change.Gone), change.Came...)
	slices.SortFunc(now, compareAtoms)
	reply, f := y.x.Query(syntax.PrintQuery(y.p.watches[w-1].query), greatestInt)
	if f != ok || !same(reply.Answers, now) {
		y.t.Errorf("P20.16: the News of watch %d lead to %q, the answers are %q, %v", w, toldAtoms(now), toldAtoms(reply.Answers), f)
	}
	y.since[w-1] = now
}

func (s *scene) play(y *pair, r api.Record) {
	s.t.Helper()
	err, want := y.x.Play(r), y.p.play(r)
	s.want(fmt.Sprintf("P20.12: Play(%+v)", r), fmt.Sprint(err), fmt.Sprint(want), want)
}

// look: the lists of all contexts; and P20.15.
func (s *scene) look() {
	s.t.Helper()
	for _, y := range s.pairs {
		if y.x.Name() != y.p.name || !sameClauses(y.x.Own(), y.p.own) || !sameClauses(y.x.Clauses(), y.p.clauses()) {
			s.t.Errorf("P20.11: %s has own clauses %q, clauses %q, want %q, %q", y.x.Name(), told(y.x.Own()), told(y.x.Clauses()), told(y.p.own), told(y.p.clauses()))
		}
		var certs []string
		for _, b := range y.x.Certs() {
			certs = append(certs, string(b))
		}
		if !slices.Equal(certs, y.p.certificates()) {
			s.t.Errorf("P20.11: the certificates are %x, want %x", certs, y.p.certificates())
		}
		s.told["said by others"] += y.wantWhoSays()
	}
}

// wantWhoSays: P20.15, by what the context shows alone; how many clauses there are of which it speaks.
func (y *pair) wantWhoSays() int {
	y.t.Helper()
	var quotes []api.Clause
	for _, b := range y.x.Certs() {
		c, err := cert.Read(b)
		if err != api.OK {
			y.t.Errorf("P20.15: %x was taken: %d", b, err)
		}
		quotes = append(quotes, quoted(c.Signer, c.Clause))
	}
	spoken, own := 0, y.x.Own()
	for _, c := range y.x.Clauses() {
		if c.Head.By == none || hasClause(own, c) {
			continue
		}
		spoken++
		if !hasClause(quotes, c) {
			y.t.Errorf("P20.15: %s is neither an own clause nor said by a certificate", syntax.Print(c))
		}
	}
	return spoken
}

func TestScripts(t *testing.T) {
	all := map[string]int{}
	for seed := range int64(400) {
		c := newChosen(seed)
		s := newScene(t)
		for range 200 {
			s.step(c)
			if c.Intn(4) == 0 {
				s.look()
			}
		}
		s.look()
		for what, n := range s.told {
			all[what] += n
		}
		if t.Failed() {
			t.Fatalf("the script of seed %d", seed)
		}
	}
	for what, least := range map[string]int{
		"P20.2: Assert 0": 3000, "P20.2: Assert 51": 50, "P20.2: Assert 34": 50, "P20.3: Retract 0": 1000, "P20.3: Retract 202": 300,
		"P20.6: Export 0": 1000, "P20.6: Export 37": 300, "P20.6: Export 201": 300, "P20.6: Export 103": 100, "P20.6: Export 51": 100,
		"P20.4: Import 0": 2000, "P20.4: Import 191": 10, "P20.4: Import 192": 100, "P20.4: Import 61": 20, "P20.4: Import 62": 100, "P20.4: Import 63": 10,
		"P20.5: Forget 0": 500, "P20.5: Forget 203": 500, "P20.7: Query 0": 700, "P20.7: Query 103": 500, "P20.8: Ask 0": 1500,
		"P20.9: Watch 0": 300, "P20.10: News 0": 3000, "P20.10: News 204": 200, "P20.12: Play 0": 500, "P20.12: Play 222": 500,
		"came": 400, "gone": 200, "said by others": 5000,
	} {
		if all[what] < least {
			t.Errorf("too much alike: %s: %d times, want %d", what, all[what], least)
		}
	}
}
