package world_test

import (
	"crypto/hmac"
	"crypto/sha256"
	"encoding/hex"
	"fmt"
	"slices"
	"strings"
	"testing"

	"hearsay/api"
	"hearsay/cert"
	"hearsay/syntax"
	"hearsay/world"
)

const (
	leastInt    = -1 << 63
	greatestInt = 1<<63 - 1
)

func texts(l ...string) []string { return l }

func ints(l ...int) []int { return l }

func steps(l ...api.Do) []api.Do { return l }

func long(n int) string { return strings.Repeat("a", n) }

// The steps, by their kinds.

func doEnroll(who string) api.Do { return api.Do{Kind: api.DoEnroll, Who: who} }

func doAssert(who, text string) api.Do { return api.Do{Kind: api.DoAssert, Who: who, Text: text} }

func doRetract(who, text string) api.Do { return api.Do{Kind: api.DoRetract, Who: who, Text: text} }

func doExport(who, text string, fuel int) api.Do {
	return api.Do{Kind: api.DoExport, Who: who, Text: text, N: fuel}
}

func doImport(who string, n int) api.Do { return api.Do{Kind: api.DoImport, Who: who, N: n} }

func doForget(who, text string) api.Do { return api.Do{Kind: api.DoForget, Who: who, Text: text} }

func doQuery(who, text string, fuel int) api.Do {
	return api.Do{Kind: api.DoQuery, Who: who, Text: text, N: fuel}
}

func doAsk(who, text string) api.Do { return api.Do{Kind: api.DoAsk, Who: who, Text: text} }

func doWatch(who, text string) api.Do { return api.Do{Kind: api.DoWatch, Who: who, Text: text} }

func doNews(who string, n int) api.Do { return api.Do{Kind: api.DoNews, Who: who, N: n} }

func doWhy(who, text string) api.Do { return api.Do{Kind: api.DoWhy, Who: who, Text: text} }

func doLoss(who, to string) api.Do { return api.Do{Kind: api.DoLoss, Who: who, To: to} }

func doProve(who, text string, fuel int) api.Do {
	return api.Do{Kind: api.DoProve, Who: who, Text: text, N: fuel}
}

func doShow(who string, n int) api.Do { return api.Do{Kind: api.DoShow, Who: who, N: n} }

func doClauses(who string) api.Do { return api.Do{Kind: api.DoClauses, Who: who} }

func doDrop(n int) api.Do { return api.Do{Kind: api.DoDrop, N: n} }

func doCopy(n int) api.Do { return api.Do{Kind: api.DoCopy, N: n} }

func doSwap(n, m int) api.Do { return api.Do{Kind: api.DoSwap, N: n, M: m} }

func doFlip(n, m, k int) api.Do { return api.Do{Kind: api.DoFlip, N: n, M: m, K: k} }

func doCut(n, m int) api.Do { return api.Do{Kind: api.DoCut, N: n, M: m} }

func doForge(b string) api.Do { return api.Do{Kind: api.DoForge, Bytes: []byte(b)} }

func doWaiting() api.Do { return api.Do{Kind: api.DoWaiting} }

func doCrash(who string, m int) api.Do { return api.Do{Kind: api.DoCrash, Who: who, M: m} }

func doRedundant(who string) api.Do { return api.Do{Kind: api.DoRedundant, Who: who} }

// What is told.

var done = api.Told{}

func toldN(n int) api.Told { return api.Told{N: n} }

func refused(err api.Errno) api.Told { return api.Told{Err: err} }

func fault(err api.Errno, at int) api.Told { return api.Told{Err: err, At: at} }

func sent(n int, id api.Digest) api.Told { return api.Told{N: n, Id: id} }

func toldAtoms(l ...string) api.Told { return api.Told{Atoms: atoms(l...)} }

func toldNews(came, gone []string) api.Told {
	return api.Told{Atoms: atoms(came...), Gone: atoms(gone...)}
}

func toldClauses(l ...string) api.Told { return api.Told{Clauses: program(strings.Join(l, " "))} }

func toldNums(l ...int) api.Told { return api.Told{Nums: l} }

// atoms: by their texts, which must be right.
func atoms(l ...string) []api.Atom {
	var out []api.Atom
	for _, text := range l {
		a, f := syntax.Query(text + "?")
		if f.Err != api.OK {
			panic(text)
		}
		out = append(out, a)
	}
	return out
}

// program: the clauses of a text, which must be right.
func program(text string) []api.Clause {
	cs, f := syntax.Program(text)
	if f.Err != api.OK {
		panic(text)
	}
	return cs
}

// numbered: the text of name(from). to name(to - 1).
func numbered(name string, from, to int) string {
	var s strings.Builder
	for n := from; n < to; n++ {
		fmt.Fprintf(&s, "%s(%d).\n", name, n)
	}
	return s.String()
}

func sameAtom(x, y api.Atom) bool {
	return x.Name == y.Name && x.By == y.By && slices.Equal(x.Args, y.Args)
}

func same(x, y []api.Atom) bool { return slices.EqualFunc(x, y, sameAtom) }

// sameClause: field by field, nil and empty lists being one.
func sameClause(x, y api.Clause) bool {
	return sameAtom(x.Head, y.Head) && same(x.Body, y.Body) && slices.Equal(x.Tests, y.Tests)
}

func sameClauses(x, y []api.Clause) bool { return slices.EqualFunc(x, y, sameClause) }

func sameStep(x, y api.Step) bool {
	return x.Rule == y.Rule && slices.Equal(x.Vals, y.Vals) && slices.Equal(x.Uses, y.Uses)
}

func sameProof(x, y api.Proof) bool {
	return sameClauses(x.Rules, y.Rules) && slices.EqualFunc(x.Steps, y.Steps, sameStep)
}

func sameTold(x, y api.Told) bool {
	return x.Err == y.Err && x.At == y.At && x.N == y.N && x.Id == y.Id && same(x.Atoms, y.Atoms) && same(x.Gone, y.Gone) &&
		sameClauses(x.Clauses, y.Clauses) && slices.EqualFunc(x.Proofs, y.Proofs, sameProof) && slices.Equal(x.Nums, y.Nums)
}

func hasClause(l []api.Clause, c api.Clause) bool {
	return slices.ContainsFunc(l, func(x api.Clause) bool { return sameClause(x, c) })
}

// shownDo: a step for a test's complaint.
func shownDo(d api.Do) string {
	return fmt.Sprintf("{Kind %d, Who %.80q, To %.80q, Text %.200q, %d bytes %.40q, N %d, M %d, K %d}", d.Kind, d.Who, d.To, d.Text, len(d.Bytes), d.Bytes, d.N, d.M, d.K)
}

func shownTold(x api.Told) string {
	text := fmt.Sprintf("{Err %d, At %d, N %d, Id %x, Atoms %q, Gone %q, Clauses %q, %d derivations, Nums %d}", x.Err, x.At, x.N, x.Id[:4], printed(x.Atoms), printed(x.Gone), syntax.PrintAll(x.Clauses), len(x.Proofs), x.Nums)
	return fmt.Sprintf("%.1500s", text)
}

func printed(l []api.Atom) []string {
	var out []string
	for _, a := range l {
		out = append(out, syntax.PrintAtom(a))
	}
	return out
}

// wantTold: the step, and what it tells.
func wantTold(t *testing.T, w *world.World, d api.Do, want api.Told) {
	t.Helper()
	if got := w.Do(d); !sameTold(got, want) {
		t.Errorf("P24.2: Do(%s) is %s, want %s", shownDo(d), shownTold(got), shownTold(want))
	}
}

// wantDone: each step is told OK, whatever beside.
func wantDone(t *testing.T, w *world.World, l ...api.Do) {
	t.Helper()
	for _, d := range l {
		if got := w.Do(d); got.Err != api.OK {
			t.Errorf("P24.2: Do(%s) is %s", shownDo(d), shownTold(got))
		}
	}
}

// worldOf: a world of the secret "s" behind these steps, each of which must be told OK.
func worldOf(t *testing.T, l ...api.Do) *world.World {
	t.Helper()
	w := world.New([]byte("s"))
	wantDone(t, w, l...)
	return w
}

// enrolled: a world with these contexts.
func enrolled(t *testing.T, names ...string) *world.World {
	t.Helper()
	w := world.New([]byte("s"))
	for _, name := range names {
		wantDone(t, w, doEnroll(name))
	}
	return w
}

// idOf: a certificate's id, by the library.
func idOf(b string) api.Digest { return sha256.Sum256([]byte(b)) }

func hexOf(id api.Digest) string { return hex.EncodeToString(id[:]) }

func mac(key, b []byte) []byte {
	h := hmac.New(sha256.New, key)
	h.Write(b)
	return h.Sum(nil)
}

// certificate: the bytes by which u says the clause of the text, with the seal that the secret's ring would give: only worked out, by the library.
func certificate(secret, u, text string) string {
	body, err := cert.Body(u, program(text)[0])
	if err != api.OK {
		panic(text)
	}
	sum := sha256.Sum256(body)
	return string(append(body, mac(mac([]byte(secret), []byte(u)), sum[:])...))
}

func turned(b string, place int, bits byte) string {
	l := []byte(b)
	l[place] ^= bits
	return string(l)
}

// bytesOf: of the message with this number; it must be there.
func bytesOf(t *testing.T, w *world.World, n int) string {
	t.Helper()
	for _, m := range w.Waiting() {
		if m.N == n {
			return string(m.Bytes)
		}
	}
	t.Fatalf("there is no message %d", n)
	return ""
}

// signed: who has a key, and what each signed.
func signed(w *world.World) string {
	var s strings.Builder
	r := world.RingOf(w)
	for _, name := range r.Names() {
		fmt.Fprintf(&s, "%q: %x\n", name, r.Signed(name))
	}
	return s.String()
}

// seen: all that looks show of a world, and the ring, as a text. What the watches have marked isn't in it.
func seen(w *world.World) string {
	var s strings.Builder
	fmt.Fprintf(&s, "names %q\n%s", w.Names(), signed(w))
	for _, name := range append(w.Names(), "nobody", "") {
		own, ownErr := w.Own(name)
		certs, certsErr := w.Certs(name)
		log, logErr := w.Journal(name)
		fmt.Fprintf(&s, "%q: %d %+v %d %x %d %x %+v\n", name, ownErr, own, certsErr, certs, logErr, log, w.Do(doClauses(name)))
	}
	for _, m := range w.Waiting() {
		fmt.Fprintf(&s, "message %d: %x\n", m.N, m.Bytes)
	}
	return s.String()
}

// wantStill: what f does isn't seen.
func wantStill(t *testing.T, what string, w *world.World, f func()) {
	t.Helper()
	before := seen(w)
	f()
	if after := seen(w); after != before {
		t.Errorf("P24.2: %s has changed the world: %s", what, unlike(before, after))
	}
}

// unlike: where two texts begin to be so, a line of each.
func unlike(x, y string) string {
	l, others := strings.Split(x, "\n"), strings.Split(y, "\n")
	for i := range min(len(l), len(others)) {
		if l[i] != others[i] {
			return fmt.Sprintf("\n%.1500s\nand\n%.1500s", l[i], others[i])
		}
	}
	return fmt.Sprintf("%d and %d lines", len(l), len(others))
}

// wantRefused: the step is told just this error and place, and nothing is changed.
func wantRefused(t *testing.T, w *world.World, d api.Do, err api.Errno, at int) {
	t.Helper()
	wantStill(t, "a step that is told an error: "+shownDo(d), w, func() { wantTold(t, w, d, fault(err, at)) })
}

// wantLook: the step tells this, and nothing is changed.
func wantLook(t *testing.T, w *world.World, d api.Do, want api.Told) {
	t.Helper()
	wantStill(t, "a look: "+shownDo(d), w, func() { wantTold(t, w, d, want) })
}

func wantOwn(t *testing.T, w *world.World, who string, want ...string) {
	t.Helper()
	got, err := w.Own(who)
	if err != api.OK || !sameClauses(got, program(strings.Join(want, " "))) {
		t.Errorf("P24.1: Own(%q) is %q, %d, want %q", who, syntax.PrintAll(got), err, want)
	}
}

// wantCerts: these, in the order of their ids.
func wantCerts(t *testing.T, w *world.World, who string, want ...string) {
	t.Helper()
	slices.SortFunc(want, func(x, y string) int { return strings.Compare(hexOf(idOf(x)), hexOf(idOf(y))) })
	l, err := w.Certs(who)
	var got []string
	for _, b := range l {
		got = append(got, string(b))
	}
	if err != api.OK || !slices.Equal(got, want) {
		t.Errorf("P24.1: Certs(%q) is %x, %d, want %x", who, got, err, want)
	}
}

// wantRow: the wire's messages, each as its number, a colon and its bytes; by Waiting and by a step.
func wantRow(t *testing.T, w *world.World, want ...string) {
	t.Helper()
	var got []string
	var nums []int
	for _, m := range w.Waiting() {
		got, nums = append(got, fmt.Sprint(m.N, ":", string(m.Bytes))), append(nums, m.N)
	}
	if !slices.Equal(got, want) {
		t.Errorf("P24.1: Waiting is %.300q, want %.300q", got, want)
	}
	wantTold(t, w, doWaiting(), toldNums(nums...))
}

// fillWire: numbers are given till there are none left; the messages are lost again.
func fillWire(t *testing.T, w *world.World) {
	t.Helper()
	for {
		told := w.Do(doForge(""))
		if told.Err == api.ErrWireFull {
			return
		}
		if told.Err != api.OK {
			t.Fatalf("P24.2: a forged message: %s", shownTold(told))
		}
		wantDone(t, w, doDrop(told.N))
	}
}
