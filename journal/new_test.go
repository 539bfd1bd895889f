package journal_test

import (
	"testing"

	"hearsay/api"
	"hearsay/journal"
)

// P22.1: New.

func TestNewOfPrincipals(t *testing.T) {
	for _, name := range principals() {
		wantLog(t, newLog(t, name), name, nil)
	}
	for n := 1; n <= 64; n++ {
		wantLog(t, newLog(t, long(n)), long(n), nil)
	}
	for b := range 256 {
		wantLog(t, newLog(t, oneByte(b)), oneByte(b), nil)
	}
}

func TestNewOfNoPrincipals(t *testing.T) {
	for _, name := range noPrincipals() {
		if j, err := journal.New(name); j != nil || err != api.ErrPrincipal {
			t.Errorf("P22.1: New(%.70q) is %v, %d", name, j, err)
		}
	}
}

// TestNewKnowsNoOther: a journal of a name that another one has begins without records.
func TestNewKnowsNoOther(t *testing.T) {
	first := newLog(t, "ann", fewRecords(t)...)
	second := newLog(t, "ann")
	wantLog(t, second, "ann", nil)
	noted(t, second, forgetting(api.Digest{9}))
	wantLog(t, first, "ann", fewRecords(t))
	wantLog(t, second, "ann", records(forgetting(api.Digest{9})))
	wantLog(t, newLog(t, "ann"), "ann", nil)
}
