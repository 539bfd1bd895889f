package context

import (
	"bytes"
	"cmp"
	"maps"
	"slices"

	"hearsay/api"
	"hearsay/cert"
	"hearsay/clause"
	"hearsay/codec"
	"hearsay/keys"
	"hearsay/syntax"
)

// core: what a context is, and what it keeps beside that.
type core struct {
	ring    *keys.Ring
	name    string
	own     map[string]api.Clause // by the clauses' bytes
	taken   map[string]taking     // by the certificates' bytes
	watches []watched
	tries   *attempt // at the model of the clauses as they are now
}

// taking: of a certificate taken, its id and the quote of what it says.
type taking struct {
	id    api.Digest
	quote api.Clause
}

func newCore(r *keys.Ring, name string) core {
	return core{
		ring:  r,
		name:  name,
		own:   map[string]api.Clause{},
		taken: map[string]taking{},
		tries: &attempt{},
	}
}

// changed: what was evaluated is of clauses that are there no more.
func (c *core) changed() { c.tries = &attempt{} }

func (c *core) assert(text string) (int, error) {
	said, fault := syntax.Program(text)
	if fault.Err != api.OK {
		return 0, refusedAt(fault)
	}
	return c.keep(said), nil
}

// keep: valid clauses, in memory that is the context's, become own ones; how many weren't yet.
func (c *core) keep(said []api.Clause) int {
	before := len(c.own)
	for _, s := range said {
		c.own[keyOf(s)] = s
	}
	came := len(c.own) - before
	if came > 0 {
		c.changed()
	}
	return came
}

func (c *core) retract(text string) (int, error) {
	said, fault := syntax.Program(text)
	if fault.Err != api.OK {
		return 0, refusedAt(fault)
	}
	return c.drop(said)
}

// drop: the clauses are own ones no more, all or none; how many that are. ErrNotOwn.
func (c *core) drop(said []api.Clause) (int, error) {
	for _, s := range said {
		if !c.owns(s) {
			return 0, refused(api.ErrNotOwn)
		}
	}
	before := len(c.own)
	for _, s := range said {
		delete(c.own, keyOf(s))
	}
	gone := before - len(c.own)
	if gone > 0 {
		c.changed()
	}
	return gone, nil
}

func (c *core) owns(s api.Clause) bool {
	_, there := c.own[keyOf(s)]
	return there
}

// keyOf: the clause's bytes. A clause that isn't valid has none, so it is found nowhere.
func keyOf(s api.Clause) string {
	b, _ := codec.Clause(s)
	return string(b)
}

// take: whether the certificate wasn't taken yet. Open's errors.
func (c *core) take(b []byte) (bool, error) {
	said, err := cert.Open(c.ring, b)
	if err != api.OK {
		return false, refused(err)
	}
	if _, there := c.taken[string(b)]; there {
		return false, nil
	}
	quote, _ := clause.Quote(said.Signer, said.Clause) // no error can be: what Open takes can be quoted
	c.taken[string(b)] = taking{id: cert.Id(b), quote: quote}
	c.changed()
	return true, nil
}

// forget: all certificates with the id go. ErrNoCert.
func (c *core) forget(id api.Digest) error {
	before := len(c.taken)
	maps.DeleteFunc(c.taken, func(_ string, t taking) bool { return t.id == id })
	if len(c.taken) == before {
		return refused(api.ErrNoCert)
	}
	c.changed()
	return nil
}

func (c *core) ownClauses() []api.Clause { return clause.Set(slices.Collect(maps.Values(c.own))) }

func (c *core) clauses() []api.Clause {
	all := slices.Collect(maps.Values(c.own))
	for _, t := range c.taken {
		all = append(all, t.quote)
	}
	return clause.Set(all)
}

func (c *core) certificates() [][]byte {
	inOrder := slices.SortedFunc(maps.Keys(c.taken), func(x, y string) int {
		a, b := c.taken[x].id, c.taken[y].id
		return cmp.Or(bytes.Compare(a[:], b[:]), cmp.Compare(x, y))
	})
	certs := make([][]byte, len(inOrder))
	for i, b := range inOrder {
		certs[i] = []byte(b)
	}
	return certs
}
