package wire_test

import (
	"testing"

	"hearsay/api"
)

// Scripts by chance, beside the row told by hand.

// tally: how often the calls of each kind were answered OK, and how often which error, so that a script that never comes anywhere is seen.
type tally struct {
	done   [callKinds]int
	errors map[api.Errno]int
}

func newTally() *tally { return &tally{errors: map[api.Errno]int{}} }

func (n *tally) take(c call) {
	if c.err == api.OK {
		n.done[c.kind]++
	} else {
		n.errors[c.err]++
	}
}

func (n *tally) wantAtLeast(t *testing.T, most int, errors ...api.Errno) {
	t.Helper()
	for kind, count := range n.done {
		if count < most {
			t.Errorf("too much alike: %d calls of the kind %d were done", count, kind)
		}
	}
	for _, err := range errors {
		if n.errors[err] < most {
			t.Errorf("too much alike: %d calls were told %d", n.errors[err], err)
		}
	}
}

func TestScripts(t *testing.T) {
	n := newTally()
	for seed := range int64(300) {
		c := newChosen(seed)
		x := watch(t)
		for range 100 {
			n.take(x.do(c.call(x.p)))
			if c.Intn(5) == 0 {
				x.look()
			}
		}
		x.look()
	}
	n.wantAtLeast(t, 300, api.ErrNoMessage, api.ErrPlace)
}

// TestScriptsOfShortRows: in which messages go as often as they come.
func TestScriptsOfShortRows(t *testing.T) {
	n := newTally()
	for seed := range int64(200) {
		c := newChosen(seed)
		x := watch(t)
		for range 150 {
			n.take(x.do(c.callOf(c.Intn(callKinds), x.p)))
		}
		x.look()
	}
	n.wantAtLeast(t, 500, api.ErrNoMessage, api.ErrPlace)
}

// TestScriptsOfFullWires: that begin with nearly all numbers given.
func TestScriptsOfFullWires(t *testing.T) {
	n := newTally()
	for seed := range int64(30) {
		c := newChosen(seed)
		x := watch(t)
		for _, s := range nothingSent(1, 4080+c.Intn(17)) {
			x.do(s)
		}
		for range 150 {
			n.take(x.do(c.call(x.p)))
		}
		x.look()
	}
	if n.errors[api.ErrWireFull] < 500 {
		t.Errorf("too much alike: %d calls were told ErrWireFull", n.errors[api.ErrWireFull])
	}
}

// TestScriptsOfLongMessages: about MaxMessage bytes.
func TestScriptsOfLongMessages(t *testing.T) {
	n := newTally()
	for seed := range int64(6) {
		c := newChosen(seed)
		x := watch(t)
		for range 40 {
			s := c.callOf(c.Intn(callKinds), x.p)
			if s.kind == callSend {
				s.text = long(api.MaxMessage - 2 + c.Intn(5))
			}
			n.take(x.do(s))
		}
		x.look()
	}
	if n.errors[api.ErrMessageLong] < 3 || n.done[callSend] < 10 {
		t.Errorf("too much alike: %v", n)
	}
}

// TestScriptsOnTwoWires: calls to the one and the other by chance; each is beside its own row.
func TestScriptsOnTwoWires(t *testing.T) {
	for seed := range int64(50) {
		c := newChosen(seed)
		both := []*watched{watch(t), watch(t)}
		for range 100 {
			x := one(c, both...)
			x.do(c.call(x.p))
		}
		for _, x := range both {
			x.look()
		}
	}
}
