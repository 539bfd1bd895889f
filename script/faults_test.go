package script_test

import (
	"testing"

	"hearsay/api"
)

// P25.1: the fault of cutting a line comes ahead of those of its name and its parts, wherever it stands.

// uncut: what can't be cut into tokens, the error, and its place in it.
type uncut struct {
	text string
	err  api.Errno
	at   int
}

func uncuts() []uncut {
	return []uncut{
		{"007", api.ErrNumber, 0}, {"-0", api.ErrNumber, 0}, {"-", api.ErrNumber, 0}, {"12ab", api.ErrNumber, 0}, {"1_0", api.ErrNumber, 0}, {"00", api.ErrNumber, 0}, {"9223372036854775808", api.ErrNumber, 0}, {"-9223372036854775809", api.ErrNumber, 0}, {"-x", api.ErrNumber, 0},
		{":", api.ErrByte, 0}, {"!", api.ErrByte, 0}, {">", api.ErrByte, 0}, {"'x'", api.ErrByte, 0}, {"é", api.ErrByte, 0}, {"\x00", api.ErrByte, 0}, {"\x7f", api.ErrByte, 0}, {"\xff", api.ErrByte, 0}, {"+7", api.ErrByte, 0}, {"\v", api.ErrByte, 0}, {"1.#", api.ErrByte, 2}, {"x\\", api.ErrByte, 1},
		{`"a\q"`, api.ErrEscape, 2}, {`"\x4g"`, api.ErrEscape, 1}, {`"abc\`, api.ErrEscape, 4}, {"\"a\tb\"", api.ErrEscape, 2}, {"\"\x7f\"", api.ErrEscape, 1}, {"\"a\nb\"", api.ErrEscape, 2}, {`"\X41"`, api.ErrEscape, 1}, {`"\r"`, api.ErrEscape, 1},
		{`"`, api.ErrOpen, 0}, {`"ab`, api.ErrOpen, 0}, {`"ab\"`, api.ErrOpen, 0}, {`"" "x`, api.ErrOpen, 3},
	}
}

// fronts: beginnings of lines that are right, or have each kind of fault of the line.
func fronts() []string {
	return texts(
		"", " ", "% so\n", "frob ", "Enroll ", "says ", "7 ", "\"enroll\" ", ", ", "enroll ", "enroll bob ", "enroll 7 ", "enroll says ", "assert bob ", "assert bob p ", "query bob \"p?\" ", "query bob \"p?\" 9 ", "query 9 ", "drop ", "drop x ", "drop 1 2 ", "flip 1 ",
		"flip 1 2 3 ", "flip 1 2 3 4 ", "waiting ", "waiting 1 ", "forge ", "forge x ", "crash ", "crash bob X ", "loss bob ( ) ",
	)
}

func TestUncutLines(t *testing.T) {
	for _, front := range fronts() {
		for _, u := range uncuts() {
			wantFault(t, front+u.text, u.err, len(front)+u.at)
			wantReadAsPlain(t, front+u.text+" % so")
			for _, v := range uncuts()[:28] { // those with an end
				wantFault(t, front+v.text+" "+u.text, v.err, len(front)+v.at)
				wantFault(t, front+v.text+" enroll bob "+u.text, v.err, len(front)+v.at)
			}
		}
	}
}

// TestUncutBehindRightLines: each row's whole line with something behind it.
func TestUncutBehindRightLines(t *testing.T) {
	for _, r := range plainRows() {
		text, _ := line(r.name, usual(r))
		for _, u := range uncuts() {
			wantFault(t, text+" "+u.text, u.err, len(text)+1+u.at)
			wantFault(t, text+"\n"+u.text, u.err, len(text)+1+u.at)
		}
	}
}

// TestUncutInRemarks: what stands in a remark, or in quotes, is no fault.
func TestUncutInRemarks(t *testing.T) {
	for _, u := range uncuts() {
		if u.text == "\"a\nb\"" {
			continue // its line feed would end the remark
		}
		wantRead(t, "drop 1 %"+u.text, api.Do{Kind: api.DoDrop, N: 1})
		wantRead(t, "drop % "+u.text+"\n1", api.Do{Kind: api.DoDrop, N: 1})
		wantRead(t, "%"+u.text+"\ndrop 1", api.Do{Kind: api.DoDrop, N: 1})
		wantFault(t, "drop % "+u.text, api.ErrParts, 7+len(u.text))
		wantBlank(t, "%"+u.text, true)
	}
	wantRead(t, `assert bob "007 % ! : -0"`, api.Do{Kind: api.DoAssert, Who: "bob", Text: "007 % ! : -0"})
}
