package script_test

import (
	"testing"

	"hearsay/api"
)

// The chapter's examples, one by one.

func TestExampleOfAQuery(t *testing.T) {
	d := api.Do{Kind: api.DoQuery, Who: "bob", Text: "may(X)?", N: 9}
	wantRead(t, `query bob "may(X)?" 9 % now`, d)
	wantPrint(t, d, `query bob "may(X)?" 9`)
}

func TestExampleOfNames(t *testing.T) {
	wantRead(t, `enroll "says"`, api.Do{Kind: api.DoEnroll, Who: "says"})
	wantPrint(t, api.Do{Kind: api.DoEnroll, Who: "says"}, `enroll "says"`)
	wantPrint(t, api.Do{Kind: api.DoEnroll, Who: "Bob"}, `enroll "Bob"`)
	wantPrint(t, api.Do{Kind: api.DoEnroll, Who: ""}, `enroll ""`)
	wantFault(t, "enroll says", api.ErrParts, 7)
	wantFault(t, "enroll Bob", api.ErrParts, 7)
}

func TestExampleOfParts(t *testing.T) {
	wantRead(t, "waiting", api.Do{Kind: api.DoWaiting})
	wantFault(t, "waiting 1", api.ErrParts, 8)
	wantFault(t, "swap 1", api.ErrParts, 6)
	wantRead(t, "swap 1 -2", api.Do{Kind: api.DoSwap, N: 1, M: -2})
	wantFault(t, "swap1 2", api.ErrWord, 0)
	wantFault(t, "assert bob p", api.ErrParts, 11)
}

func TestExampleOfFaults(t *testing.T) {
	wantFault(t, "", api.ErrWord, 0)
	wantFault(t, "  % x", api.ErrWord, 5)
	wantBlank(t, "  % x", true)
	wantFault(t, "Query bob", api.ErrWord, 0)
	wantFault(t, "says", api.ErrWord, 0)
	wantFault(t, "drop 007", api.ErrNumber, 5)
	wantFault(t, "drop x 007", api.ErrNumber, 7)
}

func TestExampleOfPrint(t *testing.T) {
	wantPrint(t, api.Do{Kind: api.DoForge, Bytes: []byte{0x00, 0x22, 0xff}}, `forge "\x00\"\xff"`)
	wantNoLine(t, api.Do{Kind: api.DoDrop, N: 1, Who: "x"})
	wantNoLine(t, api.Do{Kind: 0})
	wantNoLine(t, api.Do{Kind: 25})
}

func TestExampleOfLines(t *testing.T) {
	wantLines(t, "a\n\nb\r\n", "a", "", "b\r")
	wantLines(t, "")
	wantLines(t, "\n", "")
}
