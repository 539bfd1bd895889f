package context_test

import (
	"fmt"
	"strings"
	"testing"

	"hearsay/api"
	"hearsay/context"
	"hearsay/keys"
	"hearsay/syntax"
)

// P20.13: contexts that come to the same clauses and certificates by different ways answer the same.

// target: where the ways lead to.
type target struct {
	own   []string // a clause each
	certs [][]byte
}

// someTarget: clauses that ann owns and certificates of others, and those that come in between and go again.
func someTarget(t *testing.T, c *chosen, r *keys.Ring) (there, between target) {
	t.Helper()
	for _, x := range setOf(programOf(t, strings.Join(clauseTexts(), " "))) {
		text := syntax.Print(x)
		at := one(c, &there, &there, &between)
		at.own = append(at.own, text)
		if x.Head.By == none {
			at = one(c, &there, &between, &between)
			at.certs = append(at.certs, issued(t, r, one(c, "ann", "bob", "carl"), text))
		}
	}
	return there, between
}

// straight: all at once.
func (g target) straight(t *testing.T, x *context.Context) {
	t.Helper()
	asserted(t, x, strings.Join(g.own, " "))
	imported(t, x, g.certs...)
}

// wandering: one by one in any order, by the calls or by records, with doubles, refusals and looks between; what must go again goes.
func (g target) wandering(t *testing.T, c *chosen, x *context.Context, between target) {
	t.Helper()
	var steps, late []func()
	own := func(text string) { steps = append(steps, c.bringing(t, x, text)) }
	take := func(b []byte) { steps = append(steps, c.taking(t, x, b)) }
	for _, text := range g.own {
		own(text)
	}
	for _, b := range g.certs {
		take(b)
	}
	for _, text := range between.own {
		own(text)
		late = append(late, func() { retracted(t, x, text) })
	}
	for _, b := range between.certs {
		take(b)
		late = append(late, func() { wantForget(t, x, sum(string(b)), api.OK) })
	}
	for _, steps := range [][]func(){steps, late} {
		c.Shuffle(len(steps), func(i, k int) { steps[i], steps[k] = steps[k], steps[i] })
		for _, step := range steps {
			step()
			c.distract(x)
		}
	}
}

// bringing: an own clause comes: asserted, perhaps twice, or played; perhaps it goes and comes again.
func (c *chosen) bringing(t *testing.T, x *context.Context, text string) func() {
	how := c.Intn(4)
	return func() {
		switch how {
		case 0:
			asserted(t, x, text+" "+text)
		case 1:
			wantPlay(t, x, api.Record{Kind: api.RecAssert, Clause: clauseOf(t, text)}, api.OK)
		case 2:
			asserted(t, x, text)
			wantPlay(t, x, api.Record{Kind: api.RecRetract, Clause: clauseOf(t, text)}, api.OK)
			asserted(t, x, text)
		default:
			asserted(t, x, text)
		}
	}
}

// taking: a certificate comes, in one of these ways.
func (c *chosen) taking(t *testing.T, x *context.Context, b []byte) func() {
	how := c.Intn(4)
	return func() {
		switch _, err := x.Import(b); {
		case err != api.OK:
			t.Errorf("P20.4: Import(%x) is %d", b, err)
		case how == 0:
			wantImport(t, x, b, false, api.OK)
		case how == 1:
			wantForget(t, x, sum(string(b)), api.OK)
			wantPlay(t, x, api.Record{Kind: api.RecTake, Bytes: b}, api.OK)
		}
	}
}

// distract: calls that change nothing, and such as are refused.
func (c *chosen) distract(x *context.Context) {
	switch c.Intn(9) {
	case 0:
		x.Query(c.query(), c.fuel())
	case 1:
		x.Ask(c.query())
	case 2:
		x.Assert(one(c, badTexts()...))
	case 3:
		x.Retract(one(c, append(badTexts(), "p(a). never(7).")...))
	case 4:
		x.Import([]byte(one(c, "", "HSC1", "HSC1\x03bob")))
	case 5:
		x.Forget(never)
	case 6:
		x.Watch(c.query())
	case 7:
		x.News(1 + c.Intn(9))
	case 8:
		x.Play(one(c, api.Record{}, api.Record{Kind: api.RecForget}, api.Record{Kind: api.RecAssert, Clause: one(c, invalid()...)}))
	}
}

// exports: what Export answers of all clauses that the tests know, with some fuels.
func exports(x *context.Context) string {
	var s strings.Builder
	for _, text := range append(clauseTexts(), "q(a).", "q(b).", "ok(a).", "ok(c).", "e(a, c).", "p(c).") {
		for _, fuel := range []int{0, 2, 4, 5001} {
			b, f := x.Export(text, fuel)
			fmt.Fprintf(&s, "export %s %d: %x %v\n", text, fuel, b, f)
		}
	}
	return s.String()
}

// allSeen: what can be seen, and the answers of all queries of the tests with many fuels.
func allSeen(x *context.Context) string {
	var s strings.Builder
	for _, text := range queryTexts() {
		for fuel := range 8 {
			reply, f := x.Query(text, fuel)
			fmt.Fprintf(&s, "%s %d: %+v %v\n", text, fuel, reply, f)
		}
	}
	return seen(x) + exports(x) + s.String()
}

func TestWays(t *testing.T) {
	answered := 0
	for seed := range int64(80) {
		c := newChosen(seed)
		r := ringOf(t, "s", "ann", "bob", "carl")
		there, between := someTarget(t, c, r)
		first := newContext(t, r, "ann")
		there.straight(t, first)
		want := allSeen(first)
		answered += strings.Count(want, "Steps:[{")
		for range 3 {
			x := newContext(t, r, "ann")
			there.wandering(t, c, x, between)
			if got := allSeen(x); got != want {
				t.Fatalf("P20.13: seed %d: by another way\n%s\nwant\n%s", seed, got, want)
			}
			wantSameNews(t, c, first, x)
		}
	}
	if answered < 4000 {
		t.Errorf("too much alike: %d derivations", answered)
	}
}

// wantSameNews: of watches over one query that begin now in both, whatever watches there were before.
func wantSameNews(t *testing.T, c *chosen, x, y *context.Context) {
	t.Helper()
	query := one(c, queryTexts()...)
	i, f := x.Watch(query)
	k, g := y.Watch(query)
	if f != g {
		t.Errorf("P20.13: Watch(%q) is %v and %v", query, f, g)
	}
	if f != ok {
		return
	}
	for _, z := range []*context.Context{x, y} {
		asserted(t, z, "never(7). p(z). bob says q(z). p(X) :- never(X).")
	}
	came, err := x.News(i)
	other, otherErr := y.News(k)
	if err != otherErr || !sameChange(came, other) {
		t.Errorf("P20.13: News of %q is %v, %d and %v, %d", query, came, err, other, otherErr)
	}
	for _, z := range []*context.Context{x, y} {
		retracted(t, z, "never(7). p(z). bob says q(z). p(X) :- never(X).")
	}
}

// TestTwoRingsWithOneSecret: what answers hang on of a ring is its secret, what a context took being the same.
func TestTwoRingsWithOneSecret(t *testing.T) {
	for seed := range int64(20) {
		c, again := newChosen(seed), newChosen(seed)
		r, other := ringOf(t, "s", "ann", "bob", "carl"), ringOf(t, "s", "dan", "carl", "bob", "ann")
		other.Sign("carl", never)
		there, between := someTarget(t, c, r)
		someTarget(t, again, other) // the same certificates are issued there
		x, y := newContext(t, r, "ann"), newContext(t, other, "ann")
		there.straight(t, x)
		there.wandering(t, c, y, between)
		if allSeen(x) != allSeen(y) {
			t.Errorf("P20.13: seed %d: on another ring with this secret\n%s\nwant\n%s", seed, allSeen(y), allSeen(x))
		}
	}
}
