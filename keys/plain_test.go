package keys_test

import (
	"bytes"
	"fmt"
	"math/rand"
	"slices"
	"testing"

	"hearsay/api"
	"hearsay/keys"
)

// plainRing: a ring by the chapter's words, with lists alone, and the library's keyed digest.
type plainRing struct {
	secret string
	names  []string
	pairs  []pair
}

type pair struct {
	name string
	d    api.Digest
}

func (p *plainRing) has(name string) bool { return slices.Contains(p.names, name) }

func (p *plainRing) enroll(name string) api.Errno {
	switch {
	case len(name) == 0 || len(name) > 64:
		return api.ErrPrincipal
	case p.has(name):
		return api.ErrEnrolled
	case len(p.names) == 256:
		return api.ErrRing
	}
	p.names = append(p.names, name)
	return api.OK
}

func (p *plainRing) namesInOrder() []string {
	l := slices.Clone(p.names)
	slices.SortFunc(l, func(x, y string) int { return bytes.Compare([]byte(x), []byte(y)) })
	return l
}

func (p *plainRing) sign(name string, d api.Digest) (api.Digest, api.Errno) {
	if !p.has(name) {
		return api.Digest{}, api.ErrUnknown
	}
	if !slices.Contains(p.pairs, pair{name, d}) {
		p.pairs = append(p.pairs, pair{name, d})
	}
	return sealOf(p.secret, name, d), api.OK
}

func (p *plainRing) verify(name string, d, seal api.Digest) bool {
	return slices.Contains(p.pairs, pair{name, d}) && seal == sealOf(p.secret, name, d)
}

func (p *plainRing) signed(name string) []api.Digest {
	var l []api.Digest
	for _, x := range p.pairs {
		if x.name == name {
			l = append(l, x.d)
		}
	}
	slices.SortFunc(l, func(x, y api.Digest) int { return bytes.Compare(x[:], y[:]) })
	return l
}

func (p *plainRing) copied() *plainRing {
	return &plainRing{p.secret, slices.Clone(p.names), slices.Clone(p.pairs)}
}

// Kinds of calls.
const (
	callEnroll = iota
	callSign
	callVerify
	callHas
	callNames
	callSigned
	callKinds
)

// call: with what it was answered; what its kind doesn't answer is zero.
type call struct {
	kind    int
	name    string
	d, seal api.Digest // what is handed in

	err     api.Errno
	yes     bool
	given   api.Digest
	names   []string
	digests []api.Digest
}

func (c call) same(o call) bool {
	return c.err == o.err && c.yes == o.yes && c.given == o.given && slices.Equal(c.names, o.names) && slices.Equal(c.digests, o.digests)
}

// String: names may have any bytes, so they are quoted.
func (c call) String() string {
	return fmt.Sprintf("{%d of %.70q, %x, %x: %d, %t, %x, %.70q, %x}", c.kind, c.name, c.d, c.seal, c.err, c.yes, c.given, c.names, c.digests)
}

// of: the call, answered by the ring.
func (c call) of(r *keys.Ring) call {
	switch c.kind {
	case callEnroll:
		c.err = r.Enroll(c.name)
	case callSign:
		c.given, c.err = r.Sign(c.name, c.d)
	case callVerify:
		c.yes = r.Verify(c.name, c.d, c.seal)
	case callHas:
		c.yes = r.Has(c.name)
	case callNames:
		c.names = r.Names()
	case callSigned:
		c.digests = r.Signed(c.name)
	}
	return c
}

// ofPlain: the call, answered by the plain ring.
func (c call) ofPlain(p *plainRing) call {
	switch c.kind {
	case callEnroll:
		c.err = p.enroll(c.name)
	case callSign:
		c.given, c.err = p.sign(c.name, c.d)
	case callVerify:
		c.yes = p.verify(c.name, c.d, c.seal)
	case callHas:
		c.yes = p.has(c.name)
	case callNames:
		c.names = p.namesInOrder()
	case callSigned:
		c.digests = p.signed(c.name)
	}
	return c
}

// chosen: calls by chance, the same at every run. Few names and digests, so that they meet one another.
type chosen struct{ *rand.Rand }

func newChosen(seed int64) *chosen { return &chosen{rand.New(rand.NewSource(seed))} }

func one[T any](c *chosen, of ...T) T { return of[c.Intn(len(of))] }

func (c *chosen) some(of []string, n int) []string {
	var l []string
	for _, i := range c.Perm(len(of))[:n] {
		l = append(l, of[i])
	}
	return l
}

func (c *chosen) digests(n int) []api.Digest {
	var l []api.Digest
	for _, i := range c.Perm(len(risingDigests()))[:n] {
		l = append(l, risingDigests()[i])
	}
	return l
}

// call: of some names and digests; the seal is mostly the pair's own one, whether it was given or not.
func (c *chosen) call(secret string, names []string, digests []api.Digest) call {
	x := call{kind: c.Intn(callKinds), name: one(c, names...), d: one(c, digests...)}
	switch c.Intn(6) {
	case 0:
		x.seal = one(c, digests...)
	case 1:
		x.seal = sealOf(secret, one(c, names...), one(c, digests...))
	case 2:
		x.seal = changed(sealOf(secret, x.name, x.d), c.Intn(32), 1<<c.Intn(8))
	default:
		x.seal = sealOf(secret, x.name, x.d)
	}
	return x
}

// watched: a ring, and a plain one to which the same calls come.
type watched struct {
	t *testing.T
	r *keys.Ring
	p *plainRing
}

func watch(t *testing.T, secret string) *watched {
	return &watched{t, keys.New([]byte(secret)), &plainRing{secret: secret}}
}

// do: the call, answered by both.
func (w *watched) do(x call) call {
	w.t.Helper()
	got, want := x.of(w.r), x.ofPlain(w.p)
	if !got.same(want) {
		w.t.Errorf("of the calls by chance one is answered %v, want %v", got, want)
	}
	return got
}

// look: all that can be asked of these names and digests.
func (w *watched) look(names []string, digests []api.Digest) {
	w.t.Helper()
	wantNames(w.t, w.r, w.p.namesInOrder()...)
	for _, name := range names {
		wantHas(w.t, w.r, name, w.p.has(name))
		wantSigned(w.t, w.r, name, w.p.signed(name)...)
		for _, d := range digests {
			seal := sealOf(w.p.secret, name, d)
			wantVerify(w.t, w.r, name, d, seal, w.p.verify(name, d, seal))
		}
	}
}
