package world_test

import (
	"fmt"
	"slices"
	"strings"
	"testing"

	"hearsay/api"
	"hearsay/bundle"
	"hearsay/cert"
	"hearsay/clause"
	"hearsay/context"
	"hearsay/digest"
	"hearsay/imply"
	"hearsay/journal"
	"hearsay/keys"
	"hearsay/syntax"
	"hearsay/term"
	"hearsay/why"
	"hearsay/wire"
	"hearsay/world"
)

// What follows is chapter 24 by its words: the layers below, called one by one. A journal is a list of records, of which a new journal is made whenever its bytes are asked for.

type plainParty struct {
	name    string
	x       *context.Context
	l       []api.Record
	watches int // how many were given, since the last crash
}

type plainWorld struct {
	ring  *keys.Ring
	wire  *wire.Wire
	given int // numbers of messages
	all   []*plainParty
}

func newPlain(secret string) *plainWorld {
	return &plainWorld{ring: keys.New([]byte(secret)), wire: wire.New()}
}

func (p *plainWorld) of(name string) *plainParty {
	for _, y := range p.all {
		if y.name == name {
			return y
		}
	}
	return nil
}

// logOf: a new journal of this name, with these records.
func logOf(name string, l []api.Record) *journal.Log {
	j, err := journal.New(name)
	if err != api.OK {
		panic(name)
	}
	for _, r := range l {
		if err := j.Note(r); err != api.OK {
			panic(fmt.Sprint(err, r))
		}
	}
	return j
}

// ends: where the head and the records of a journal end.
func ends(name string, l []api.Record) []int {
	var out []int
	for n := range len(l) + 1 {
		out = append(out, len(logOf(name, l[:n]).Bytes()))
	}
	return out
}

func (p *plainWorld) do(d api.Do) api.Told {
	switch d.Kind {
	case api.DoEnroll:
		return p.enroll(d.Who)
	case api.DoDrop, api.DoCopy, api.DoSwap, api.DoFlip, api.DoCut, api.DoForge, api.DoWaiting:
		return p.onWire(d)
	}
	if d.Kind < api.DoEnroll || d.Kind > api.DoRedundant {
		return refused(api.ErrStep)
	}
	y := p.of(d.Who)
	if y == nil {
		return refused(api.ErrNoContext)
	}
	switch d.Kind {
	case api.DoExport, api.DoImport, api.DoProve, api.DoShow:
		return p.byWire(y, d)
	case api.DoAssert, api.DoRetract, api.DoForget, api.DoCrash:
		return p.change(y, d)
	}
	return y.ask(d)
}

func (p *plainWorld) enroll(name string) api.Told {
	switch {
	case len(name) < 1 || len(name) > 64:
		return refused(api.ErrPrincipal)
	case p.of(name) != nil:
		return refused(api.ErrEnrolled)
	case len(p.all) == 32:
		return refused(api.ErrContexts)
	}
	p.ring.Enroll(name)
	x, err := context.New(p.ring, name)
	p.all = append(p.all, &plainParty{name: name, x: x})
	return refused(err)
}

func (p *plainWorld) onWire(d api.Do) api.Told {
	switch d.Kind {
	case api.DoCopy:
		return p.given1(p.wire.Copy(d.N))
	case api.DoForge:
		return p.given1(p.wire.Send(d.Bytes))
	case api.DoDrop:
		return refused(p.wire.Drop(d.N))
	case api.DoSwap:
		return refused(p.wire.Swap(d.N, d.M))
	case api.DoFlip:
		return refused(p.wire.Flip(d.N, d.M, d.K))
	case api.DoCut:
		return refused(p.wire.Cut(d.N, d.M))
	}
	var l []int
	for _, m := range p.wire.Waiting() {
		l = append(l, m.N)
	}
	return toldNums(l...)
}

// given1: a number of the wire's, if it gave one.
func (p *plainWorld) given1(n int, err api.Errno) api.Told {
	if err == api.OK {
		p.given++
	}
	return api.Told{Err: err, N: n}
}

func (p *plainWorld) byWire(y *plainParty, d api.Do) api.Told {
	switch d.Kind {
	case api.DoExport:
		return p.export(y, d)
	case api.DoProve:
		return p.prove(y, d)
	}
	b, err := p.wire.Look(d.N)
	if err != api.OK {
		return refused(err)
	}
	if d.Kind == api.DoShow {
		goal, err := bundle.Show(p.ring, y.x.Clauses(), b)
		if err != api.OK {
			return refused(err)
		}
		return api.Told{Atoms: []api.Atom{goal}}
	}
	came, err := y.x.Import(b)
	if err != api.OK {
		return refused(err)
	}
	p.wire.Take(d.N)
	if !came {
		return sent(0, cert.Id(b))
	}
	y.l = append(y.l, api.Record{Kind: api.RecTake, Bytes: b})
	return sent(1, cert.Id(b))
}

func (p *plainWorld) export(y *plainParty, d api.Do) api.Told {
	if p.given == 4096 {
		return refused(api.ErrWireFull)
	}
	b, f := y.x.Export(d.Text, d.N)
	if f.Err != api.OK {
		return fault(f.Err, f.At)
	}
	told := p.given1(p.wire.Send(b))
	told.Id = cert.Id(b)
	return told
}

func (p *plainWorld) prove(y *plainParty, d api.Do) api.Told {
	if p.given == 4096 {
		return refused(api.ErrWireFull)
	}
	goal, f := syntax.Query(d.Text)
	if f.Err != api.OK {
		return fault(f.Err, f.At)
	}
	b, err := bundle.Make(p.ring, y.x.Own(), y.x.Certs(), goal, d.N)
	if err != api.OK {
		return refused(err)
	}
	return p.given1(p.wire.Send(b))
}

func (p *plainWorld) change(y *plainParty, d api.Do) api.Told {
	switch d.Kind {
	case api.DoAssert:
		return y.assert(d.Text)
	case api.DoRetract:
		return y.retract(d.Text)
	case api.DoCrash:
		return p.crash(y, d.M)
	}
	id, err := digest.FromHex(d.Text)
	if err == api.OK {
		err = y.x.Forget(id)
	}
	if err == api.OK {
		y.l = append(y.l, api.Record{Kind: api.RecForget, Id: id})
	}
	return refused(err)
}

func (y *plainParty) assert(text string) api.Told {
	before := y.x.Own()
	if _, f := y.x.Assert(text); f.Err != api.OK {
		return fault(f.Err, f.At)
	}
	came := 0
	for _, c := range clause.Set(program(text)) {
		if !hasClause(before, c) {
			came++
			y.l = append(y.l, api.Record{Kind: api.RecAssert, Clause: c})
		}
	}
	return toldN(came)
}

func (y *plainParty) retract(text string) api.Told {
	if _, f := y.x.Retract(text); f.Err != api.OK {
		return fault(f.Err, f.At)
	}
	gone := clause.Set(program(text))
	for _, c := range gone {
		y.l = append(y.l, api.Record{Kind: api.RecRetract, Clause: c})
	}
	return toldN(len(gone))
}

// crash: the records whose last byte stands among the first m are left, and played on a new context.
func (p *plainWorld) crash(y *plainParty, m int) api.Told {
	left := 0
	for n, end := range ends(y.name, y.l) {
		if end <= m {
			left = n
		}
	}
	y.l, y.watches = y.l[:left:left], 0
	y.x, _ = context.New(p.ring, y.name)
	for _, r := range y.l {
		if err := y.x.Play(r); err != api.OK {
			panic(fmt.Sprint(err, r))
		}
	}
	return toldN(left)
}

func (y *plainParty) ask(d api.Do) api.Told {
	switch d.Kind {
	case api.DoQuery:
		r, f := y.x.Query(d.Text, d.N)
		return api.Told{Err: f.Err, At: f.At, Atoms: r.Answers, Proofs: r.Proofs, N: r.Rounds}
	case api.DoAsk:
		l, f := y.x.Ask(d.Text)
		return api.Told{Err: f.Err, At: f.At, Atoms: l}
	case api.DoWatch:
		n, f := y.x.Watch(d.Text)
		y.watches = max(n, y.watches)
		return api.Told{Err: f.Err, At: f.At, N: n}
	case api.DoNews:
		change, err := y.x.News(d.N)
		return api.Told{Err: err, Atoms: change.Came, Gone: change.Gone}
	case api.DoWhy:
		return y.why(d.Text)
	case api.DoLoss:
		if len(d.To) < 1 || len(d.To) > 64 {
			return refused(api.ErrPrincipal)
		}
		l, err := why.Loss(y.x.Clauses(), d.To)
		return api.Told{Err: err, Atoms: l}
	case api.DoClauses:
		return api.Told{Clauses: y.x.Clauses()}
	}
	l, err := imply.Redundant(y.x.Clauses())
	return api.Told{Err: err, Clauses: l}
}

func (y *plainParty) why(text string) api.Told {
	q, f := syntax.Query(text)
	if f.Err != api.OK {
		return fault(f.Err, f.At)
	}
	if !term.Fact(q) {
		return refused(api.ErrFact)
	}
	l, err := why.Support(y.x.Clauses(), q)
	return api.Told{Err: err, Clauses: l}
}

// twin: a world beside the plain one.
type twin struct {
	t *testing.T
	w *world.World
	p *plainWorld
}

func newTwin(t *testing.T, secret string, l ...api.Do) *twin {
	x := &twin{t, world.New([]byte(secret)), newPlain(secret)}
	for _, d := range l {
		if got := x.do(d); got.Err != api.OK {
			t.Fatalf("P24.2: Do(%s) is %s", shownDo(d), shownTold(got))
		}
	}
	return x
}

// do: the step in both; what is told must be the same.
func (x *twin) do(d api.Do) api.Told {
	x.t.Helper()
	got, want := x.w.Do(d), x.p.do(d)
	if !sameTold(got, want) {
		x.t.Errorf("P24.2: Do(%s) is\n%s, want\n%s", shownDo(d), shownTold(got), shownTold(want))
	}
	return got
}

// look: all that can be seen without a step, the ring too; of each context the journal.
func (x *twin) look() {
	x.t.Helper()
	var names, row, wantRow []string
	for _, y := range x.p.all {
		names = append(names, y.name)
	}
	slices.Sort(names)
	if got := x.w.Names(); !slices.Equal(got, names) {
		x.t.Errorf("P24.1: Names is %q, want %q", got, names)
	}
	for _, m := range x.w.Waiting() {
		row = append(row, fmt.Sprintf("%d:%s", m.N, m.Bytes))
	}
	for _, m := range x.p.wire.Waiting() {
		wantRow = append(wantRow, fmt.Sprintf("%d:%s", m.N, m.Bytes))
	}
	if !slices.Equal(row, wantRow) {
		x.t.Errorf("P24.1: Waiting is %.300q, want %.300q", row, wantRow)
	}
	if got, want := signed(x.w), signedOn(x.p.ring); got != want {
		x.t.Errorf("P24.6: the ring is\n%s\nwant\n%s", got, want)
	}
	for _, y := range x.p.all {
		x.lookAt(y)
	}
}

func signedOn(r *keys.Ring) string {
	var s strings.Builder
	for _, name := range r.Names() {
		fmt.Fprintf(&s, "%q: %x\n", name, r.Signed(name))
	}
	return s.String()
}

func (x *twin) lookAt(y *plainParty) {
	x.t.Helper()
	own, err := x.w.Own(y.name)
	if err != api.OK || !sameClauses(own, y.x.Own()) {
		x.t.Errorf("P24.1: Own(%q) is %q, %d, want %q", y.name, syntax.PrintAll(own), err, syntax.PrintAll(y.x.Own()))
	}
	certs, err := x.w.Certs(y.name)
	if err != api.OK || !slices.EqualFunc(certs, y.x.Certs(), slices.Equal) {
		x.t.Errorf("P24.1: Certs(%q) is %x, %d, want %x", y.name, certs, err, y.x.Certs())
	}
	log, err := x.w.Journal(y.name)
	if want := logOf(y.name, y.l).Bytes(); err != api.OK || !slices.Equal(log, want) {
		x.t.Errorf("P24.3: Journal(%q) is %x, %d, want %x", y.name, log, err, want)
	}
	if told := x.w.Do(doClauses(y.name)); !sameTold(told, api.Told{Clauses: y.x.Clauses()}) {
		x.t.Errorf("P24.2: the clauses of %q are %q, want %q", y.name, syntax.PrintAll(told.Clauses), syntax.PrintAll(y.x.Clauses()))
	}
}
