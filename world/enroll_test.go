package world_test

import (
	"slices"
	"strconv"
	"strings"
	"testing"

	"hearsay/api"
)

// P24.2: DoEnroll, and kinds that aren't in the table.

// TestEnroll: a key, a context without clauses, a journal without records; for every principal, each once.
func TestEnroll(t *testing.T) {
	for _, name := range namesInOrder() {
		x := newTwin(t, "s")
		wantTold(t, x.w, doEnroll(name), done)
		x.p.do(doEnroll(name))
		x.look()
		wantOwn(t, x.w, name)
		wantCerts(t, x.w, name)
		wantJournal(t, x.w, name)
		wantLook(t, x.w, doClauses(name), done)
		wantTold(t, x.w, doNews(name, 1), refused(api.ErrWatch))
		for range 2 {
			wantRefused(t, x.w, doEnroll(name), api.ErrEnrolled, 0)
		}
		for _, l := range [][]api.Do{{doAssert(name, "p.")}, {doExport(name, "p.", 0)}, {doImport(name, 1)}} {
			for _, d := range l {
				x.do(d)
				x.look()
			}
		}
		wantCerts(t, x.w, name, certificate("s", name, "p."))
	}
}

// TestNoPrincipals: names of no bytes, and of more than MaxConst.
func TestNoPrincipals(t *testing.T) {
	w := enrolled(t, "ann")
	for _, name := range texts("", long(65), long(66), long(128), long(256), long(257), long(320), long(1<<16+3), strings.Repeat("\x00", 65), strings.Repeat("\xff", 65), strings.Repeat("é", 33)) {
		wantRefused(t, w, doEnroll(name), api.ErrPrincipal, 0)
		wantRefused(t, w, doEnroll("ann"), api.ErrEnrolled, 0)
		wantNobody(t, w, name)
	}
}

// TestMaxContexts: 32 are made; then none is, whatever went on between; a name that has one, and one that is none, are told so all the same.
func TestMaxContexts(t *testing.T) {
	x := newTwin(t, "s")
	var names []string
	for n := range 32 {
		names = append(names, "u"+strconv.Itoa(100+n))
		if told := x.do(doEnroll(names[n])); told.Err != api.OK {
			t.Fatalf("P24.2: context %d: %s", n+1, shownTold(told))
		}
		x.do(doAssert(names[n], "p."))
	}
	for range 2 {
		for _, name := range texts("one more", "a", long(64)) {
			wantRefused(t, x.w, doEnroll(name), api.ErrContexts, 0)
			wantNobody(t, x.w, name)
			wantRefused(t, x.w, doAssert(name, "p."), api.ErrNoContext, 0)
		}
		wantRefused(t, x.w, doEnroll("u100"), api.ErrEnrolled, 0)
		wantRefused(t, x.w, doEnroll("u131"), api.ErrEnrolled, 0)
		wantRefused(t, x.w, doEnroll(""), api.ErrPrincipal, 0)
		wantRefused(t, x.w, doEnroll(long(65)), api.ErrPrincipal, 0)
		x.do(doCrash("u107", 0))
		x.do(doRetract("u108", "p."))
		x.look()
	}
	if got := x.w.Names(); !slices.Equal(got, names) {
		t.Errorf("P24.1: Names is %q", got)
	}
}

// TestNoKinds: numbers that aren't in the table, whatever the fields are, also in a world where nothing can be done any more.
func TestNoKinds(t *testing.T) {
	w := worldOf(t, richSteps()...)
	for _, kind := range noKinds() {
		for _, d := range steps(api.Do{}, doAssert("ann", "p."), doAssert("nobody", "p("), doEnroll(""), doForge(long(api.MaxMessage+1)), doCrash("ann", 0), doCopy(4)) {
			d.Kind = kind
			wantRefused(t, w, d, api.ErrStep, 0)
		}
	}
	fillWire(t, w)
	for _, kind := range noKinds() {
		wantRefused(t, w, api.Do{Kind: kind, Who: "ann", Text: "p(", N: 1, M: 1, K: 1, Bytes: []byte("x")}, api.ErrStep, 0)
	}
}

// used: the fields of each kind, as the table names them.
func used(kind int) []string {
	switch kind {
	case api.DoEnroll, api.DoClauses, api.DoRedundant:
		return texts("Who")
	case api.DoAssert, api.DoRetract, api.DoForget, api.DoAsk, api.DoWatch, api.DoWhy:
		return texts("Who", "Text")
	case api.DoExport, api.DoQuery, api.DoProve:
		return texts("Who", "Text", "N")
	case api.DoImport, api.DoNews, api.DoShow:
		return texts("Who", "N")
	case api.DoLoss:
		return texts("Who", "To")
	case api.DoDrop, api.DoCopy:
		return texts("N")
	case api.DoSwap, api.DoCut:
		return texts("N", "M")
	case api.DoFlip:
		return texts("N", "M", "K")
	case api.DoForge:
		return texts("Bytes")
	case api.DoCrash:
		return texts("Who", "M")
	}
	return nil
}

// overlaid: the step with all fields that its kind doesn't use taken from another.
func overlaid(d, other api.Do) api.Do {
	mine := func(field string) bool { return slices.Contains(used(d.Kind), field) }
	if mine("Who") {
		other.Who = d.Who
	}
	if mine("To") {
		other.To = d.To
	}
	if mine("Text") {
		other.Text = d.Text
	}
	if mine("Bytes") {
		other.Bytes = d.Bytes
	}
	if mine("N") {
		other.N = d.N
	}
	if mine("M") {
		other.M = d.M
	}
	if mine("K") {
		other.K = d.K
	}
	other.Kind = d.Kind
	return other
}

// others: steps with something in every field.
func others() []api.Do {
	return steps(
		api.Do{Who: "ann", To: "ann", Text: "p.", Bytes: []byte("x"), N: 1, M: 1, K: 1},
		api.Do{Who: "nobody", To: "", Text: "p(", Bytes: []byte(long(api.MaxMessage + 1)), N: leastInt, M: -1, K: leastInt},
		api.Do{Who: long(65), To: long(65), Text: long(api.MaxSource + 1), Bytes: []byte{}, N: greatestInt, M: greatestInt, K: greatestInt},
		api.Do{Who: "bob", To: "bob", Text: "may(x)?", N: 4, M: 9, K: -1},
	)
}

// TestUnusedFields: aren't looked at: every step of the samples, told OK or not, one behind the other.
func TestUnusedFields(t *testing.T) {
	for _, other := range others() {
		w, x := worldOf(t, richSteps()...), worldOf(t, richSteps()...)
		all := sampleSteps()
		for round := range 30 {
			for _, kind := range newChosen(int64(round)).Perm(26) {
				if l := all[kind]; len(l) > 0 {
					d := l[round*7919%len(l)]
					wantTold(t, w, overlaid(d, other), x.Do(d))
				}
			}
		}
		if seen(w) != seen(x) {
			t.Errorf("P24.2: fields that aren't used are seen: %s", unlike(seen(x), seen(w)))
		}
	}
}

// TestUnusedFieldsOfGoodSteps: each kind, told OK, on a world of its own; and with each error of the table.
func TestUnusedFieldsOfGoodSteps(t *testing.T) {
	for _, k := range append(append(changingKinds(), askingKinds()...), sendingKinds()...) {
		tried := []*trial{{t, worldOf(t, firstSteps()...), k.good}}
		for _, group := range k.wrongs {
			y := &trial{t, worldOf(t, firstSteps()...), k.good}
			group[0].spoil(y)
			tried = append(tried, y)
		}
		for i, y := range tried {
			other := others()[i%len(others())]
			z := &trial{t, worldOf(t, firstSteps()...), k.good}
			if i > 0 {
				k.wrongs[i-1][0].spoil(z)
			}
			wantTold(t, z.w, overlaid(z.d, other), y.w.Do(y.d))
			if seen(z.w) != seen(y.w) {
				t.Errorf("P24.2: fields that kind %d doesn't use are seen: %s", k.good.Kind, unlike(seen(y.w), seen(z.w)))
			}
		}
	}
}
