package world

import (
	"errors"
	"testing"

	"hearsay/api"
)

// What no call shows: that each kind has its row in the table, and what refusals are as error values.

// TestKinds: of each kind one row, and no other.
func TestKinds(t *testing.T) {
	table := kinds()
	for kind := api.DoEnroll; kind <= api.DoRedundant; kind++ {
		if table[kind] == nil {
			t.Errorf("Ways: the kind %d isn't in the table", kind)
		}
	}
	if len(table) != api.DoRedundant {
		t.Errorf("Ways: the table has %d kinds", len(table))
	}
}

// TestRefusals: come up as error values that keep the number and the place; OK is none.
func TestRefusals(t *testing.T) {
	w := New([]byte("s"))
	w.Do(api.Do{Kind: api.DoEnroll, Who: "ann"})
	for _, x := range []struct {
		d    api.Do
		want api.Fault
	}{
		{api.Do{}, api.Fault{Err: api.ErrStep}},
		{api.Do{Kind: api.DoAssert, Who: "eve"}, api.Fault{Err: api.ErrNoContext}},
		{api.Do{Kind: api.DoAssert, Who: "ann", Text: "p(a). q("}, api.Fault{Err: api.ErrSyntax, At: 8}},
		{api.Do{Kind: api.DoWhy, Who: "ann", Text: "p(X"}, api.Fault{Err: api.ErrSyntax, At: 3}},
		{api.Do{Kind: api.DoDrop, N: 1}, api.Fault{Err: api.ErrNoMessage}},
	} {
		told, err := w.step(x.d)
		var r refusal
		if !errors.As(err, &r) || r.Fault != x.want || err.Error() == "" {
			t.Errorf("Ways: %v is refused by %v, want %v", x.d, err, x.want)
		}
		if told.Err != api.OK || told.At != 0 {
			t.Errorf("Ways: beside its error %v tells %v", x.d, told)
		}
	}
	if _, err := w.step(api.Do{Kind: api.DoWaiting}); err != nil {
		t.Errorf("Ways: a step that is done is refused by %v", err)
	}
	if refused(api.OK) != nil || refusedAt(api.Fault{}) != nil || refusedAt(api.Fault{At: 5}) != nil {
		t.Error("Ways: no error is one")
	}
}

// TestLastNumber: what the world knows of the wire's numbers is what the wire gave, whoever asked for them, and whatever was refused.
func TestLastNumber(t *testing.T) {
	w := New([]byte("s"))
	for _, d := range []api.Do{
		{Kind: api.DoEnroll, Who: "ann"}, {Kind: api.DoAssert, Who: "ann", Text: "p(1)."}, {Kind: api.DoForge}, {Kind: api.DoCopy, N: 1}, {Kind: api.DoCopy, N: 9}, {Kind: api.DoForge, Bytes: make([]byte, api.MaxMessage+1)},
		{Kind: api.DoExport, Who: "ann", Text: "p(1)."}, {Kind: api.DoExport, Who: "ann", Text: "p(2)."}, {Kind: api.DoProve, Who: "ann", Text: "p(1)?", N: 2}, {Kind: api.DoProve, Who: "ann", Text: "p(1)?", N: 1}, {Kind: api.DoDrop, N: 4}, {Kind: api.DoCopy, N: 3},
	} {
		w.Do(d)
	}
	if w.last != 5 {
		t.Errorf("P24.2: the wire gave 5 numbers, the world counts %d", w.last)
	}
	if n, _ := w.wire.Send(nil); n != w.last+1 {
		t.Errorf("P24.2: the wire's next number is %d, behind %d", n, w.last)
	}
}
