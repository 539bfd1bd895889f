package keys_test

import (
	"slices"
	"testing"

	"hearsay/api"
)

// Scripts by chance, beside the plain ring.

// tally: how often the calls were answered in which way, so that a script that never comes anywhere is seen.
type tally struct {
	enrolled, twice, refused, full, signed, unknown, good, bad int
}

func count(yes bool) int {
	if yes {
		return 1
	}
	return 0
}

func (n *tally) take(x call) {
	enroll, sign, verify := x.kind == callEnroll, x.kind == callSign, x.kind == callVerify
	n.enrolled += count(enroll && x.err == api.OK)
	n.twice += count(enroll && x.err == api.ErrEnrolled)
	n.refused += count(enroll && x.err == api.ErrPrincipal)
	n.full += count(enroll && x.err == api.ErrRing)
	n.signed += count(sign && x.err == api.OK)
	n.unknown += count(sign && x.err == api.ErrUnknown)
	n.good += count(verify && x.yes)
	n.bad += count(verify && !x.yes)
}

func (n tally) wantAtLeast(t *testing.T, most int) {
	t.Helper()
	for _, x := range []int{n.enrolled, n.twice, n.refused, n.signed, n.unknown, n.good, n.bad} {
		if x < most {
			t.Errorf("too much alike: %+v", n)
			return
		}
	}
}

func TestScripts(t *testing.T) {
	var n tally
	for seed := range int64(200) {
		c := newChosen(seed)
		w := watch(t, one(c, secrets()[:17]...))
		names := slices.Concat(c.some(risingNames(), 4+c.Intn(6)), c.some(noPrincipals(), 1))
		digests := c.digests(1 + c.Intn(5))
		for range 120 {
			n.take(w.do(c.call(w.p.secret, names, digests)))
		}
		w.look(names, digests)
	}
	n.wantAtLeast(t, 300)
}

// TestScriptsOfFullRings: that begin with nearly all places taken.
func TestScriptsOfFullRings(t *testing.T) {
	var n tally
	for seed := range int64(20) {
		c := newChosen(seed)
		w := watch(t, "s")
		for _, name := range numberedNames(248 + c.Intn(9)) {
			w.do(call{kind: callEnroll, name: name})
		}
		names := slices.Concat(c.some(risingNames(), 12), texts("k1", "k2", "", long(65)))
		digests := c.digests(2)
		for range 150 {
			n.take(w.do(c.call("s", names, digests)))
		}
		w.look(names, digests)
	}
	if n.full < 50 {
		t.Errorf("too much alike: %+v", n)
	}
}
