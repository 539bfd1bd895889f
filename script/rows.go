package script

import (
	"slices"

	"hearsay/api"
)

// The parts that a line may have behind its name.
const (
	noPart = iota
	partWho
	partTo
	partText
	partBytes
	partN
	partM
	partK
)

// order: the parts of a line, one behind the other. Those behind the last one are no parts.
type order [3]int

// row: how a line says the steps of a kind.
type row struct {
	name  string
	kind  int
	order order
}

// rows: all lines that there are.
var rows = [...]row{
	{"enroll", api.DoEnroll, order{partWho}},
	{"assert", api.DoAssert, order{partWho, partText}},
	{"retract", api.DoRetract, order{partWho, partText}},
	{"export", api.DoExport, order{partWho, partText, partN}},
	{"import", api.DoImport, order{partWho, partN}},
	{"forget", api.DoForget, order{partWho, partText}},
	{"query", api.DoQuery, order{partWho, partText, partN}},
	{"ask", api.DoAsk, order{partWho, partText}},
	{"watch", api.DoWatch, order{partWho, partText}},
	{"why", api.DoWhy, order{partWho, partText}},
	{"news", api.DoNews, order{partWho, partN}},
	{"loss", api.DoLoss, order{partWho, partTo}},
	{"prove", api.DoProve, order{partWho, partText, partN}},
	{"show", api.DoShow, order{partWho, partN}},
	{"clauses", api.DoClauses, order{partWho}},
	{"redundant", api.DoRedundant, order{partWho}},
	{"drop", api.DoDrop, order{partN}},
	{"copy", api.DoCopy, order{partN}},
	{"swap", api.DoSwap, order{partN, partM}},
	{"flip", api.DoFlip, order{partN, partM, partK}},
	{"cut", api.DoCut, order{partN, partM}},
	{"forge", api.DoForge, order{partBytes}},
	{"waiting", api.DoWaiting, order{}},
	{"crash", api.DoCrash, order{partWho, partM}},
}

// rowNamed: false, if no line has this name.
func rowNamed(name string) (row, bool) {
	for _, r := range rows {
		if r.name == name {
			return r, true
		}
	}
	return row{}, false
}

// rowOf: false, if no line says steps of this kind.
func rowOf(kind int) (row, bool) {
	for _, r := range rows {
		if r.kind == kind {
			return r, true
		}
	}
	return row{}, false
}

// parts: those of the line, in their order.
func (r row) parts() []part {
	var l []part
	all := parts()
	for _, p := range r.order {
		if p != noPart {
			l = append(l, all[p])
		}
	}
	return l
}

// holds: whether the line has a part for all that the step says.
func (r row) holds(d api.Do) bool {
	for p, x := range parts() {
		if !slices.Contains(r.order[:], p) && !x.empty(d) {
			return false
		}
	}
	return true
}
