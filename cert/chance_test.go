package cert_test

import (
	"slices"
	"testing"

	"hearsay/api"
	"hearsay/cert"
	"hearsay/keys"
)

// P19.7, P19.8: scripts by chance over several rings, on which nothing but certificates is signed: opened on a ring is just what was issued there.

// watched: a ring, beside who was enrolled and what was issued on it.
type watched struct {
	t      *testing.T
	secret string
	r      *keys.Ring
	names  []string
	issued []string
}

func watch(t *testing.T, secret string) *watched {
	return &watched{t: t, secret: secret, r: keys.New([]byte(secret))}
}

func (w *watched) enroll(name string) {
	if w.r.Enroll(name) == api.OK {
		w.names = append(w.names, name)
	}
}

// issue: what it must answer follows from the clause's own error and from who is enrolled.
func (w *watched) issue(u string, x wrong) (string, api.Errno) {
	w.t.Helper()
	want := x.err
	switch {
	case len(u) == 0 || len(u) > 64:
		want = api.ErrPrincipal
	case want == api.OK && x.c.Head.By != none:
		want = api.ErrQualified
	case want == api.OK && !slices.Contains(w.names, u):
		want = api.ErrUnknown
	}
	b, err := cert.Issue(w.r, u, x.c)
	if err != want {
		w.t.Errorf("P19.2: Issue(%.70q, %+v) is %d, want %d", u, x.c, err, want)
	}
	if want != api.OK {
		if len(b) != 0 {
			w.t.Errorf("P19.2: beside the error %d: %x", err, b)
		}
		return "", want
	}
	if string(b) != sealed(w.secret, u, plainBody(u, x.c)) {
		w.t.Errorf("P19.2: Issue(%.70q, %+v) is %x", u, x.c, b)
	}
	if !slices.Contains(w.issued, string(b)) {
		w.issued = append(w.issued, string(b))
	}
	return string(b), api.OK
}

func (w *watched) open(b string) api.Errno {
	w.t.Helper()
	want, err := plainRead(b)
	if err == api.OK && !slices.Contains(w.issued, b) {
		want, err = api.Cert{}, api.ErrSeal
	}
	if c, got := cert.Open(w.r, []byte(b)); got != err || !sameCert(c, want) {
		w.t.Errorf("P19.4, P19.7, P19.8: Open(%x) is %+v, %d, want %+v, %d", b, c, got, want, err)
	}
	return err
}

// look: on the ring is what was enrolled and issued, nothing else.
func (w *watched) look() {
	w.t.Helper()
	want := map[string][]api.Digest{}
	for _, name := range w.names {
		want[name] = nil
	}
	for _, b := range w.issued {
		c, _ := plainRead(b)
		want[c.Signer] = append(want[c.Signer], sum(bodyOf(b)))
	}
	for _, l := range want {
		slices.SortFunc(l, func(x, y api.Digest) int { return slices.Compare(x[:], y[:]) })
	}
	wantSeen(w.t, w.r, want)
}

// said: a clause to issue; most are fine.
func (c *chosen) said() wrong {
	switch c.Intn(10) {
	case 0:
		return one(c, wrongClauses()...)
	case 1:
		return wrong{one(c, qualifiedClauses()...), api.OK}
	}
	return wrong{one(c, smallClauses()...), api.OK}
}

// bytes: something to open: mostly what was issued anywhere, as it is, spoilt, with another's seal, or only worked out.
func (c *chosen) bytes(all []string, secret string, names []string) string {
	if len(all) == 0 || c.Intn(8) == 0 {
		u := one(c, names...)
		return sealed(secret, u, plainBody(u, one(c, smallClauses()...)))
	}
	b, other := one(c, all...), one(c, all...)
	switch c.Intn(5) {
	case 0:
		return c.spoilt(b)
	case 1:
		return bodyOf(b) + other[len(other)-32:]
	case 2:
		x, _ := plainRead(b)
		return plainBody(one(c, names...), x.Clause) + string(x.Seal[:])
	}
	return b
}

func TestScripts(t *testing.T) {
	told := map[api.Errno]int{}
	for seed := range int64(150) {
		c := newChosen(seed)
		rings := []*watched{watch(t, "s"), watch(t, "s"), watch(t, "t"), watch(t, "")}
		names := c.some(principals(), 5)
		var all []string
		for range 150 {
			w := one(c, rings...)
			switch c.Intn(6) {
			case 0:
				w.enroll(one(c, names...))
			case 1, 2:
				b, err := w.issue(one(c, append(names, noPrincipals()[:2]...)...), c.said())
				if err == api.OK {
					all = append(all, b)
				}
				told[err]++
			default:
				told[w.open(c.bytes(all, w.secret, names))]++
			}
		}
		for _, w := range rings {
			for _, b := range all {
				w.open(b)
			}
			w.look()
		}
	}
	for _, err := range []api.Errno{api.OK, api.ErrPrincipal, api.ErrQualified, api.ErrUnknown, api.ErrMagic, api.ErrShort, api.ErrCode, api.ErrTail, api.ErrSeal} {
		if told[err] < 50 {
			t.Errorf("too much alike: %v", told)
		}
	}
}

// TestOfTwoRingsWithOneSecret: each opens what was issued on it, though the seals are the same.
func TestOfTwoRingsWithOneSecret(t *testing.T) {
	for seed := range int64(20) {
		c := newChosen(seed)
		x, y := watch(t, "s"), watch(t, "s")
		for _, u := range principals() {
			x.enroll(u)
			y.enroll(u)
		}
		for range 40 {
			one(c, x, y).issue(one(c, principals()[:4]...), wrong{one(c, smallClauses()[:6]...), api.OK})
		}
		both := 0
		for _, b := range slices.Concat(x.issued, y.issued) {
			if x.open(b) == api.OK && y.open(b) == api.OK {
				both++
			}
		}
		if both == 0 || both == len(x.issued)+len(y.issued) {
			t.Errorf("too much alike: %d", both)
		}
		x.look()
		y.look()
	}
}
