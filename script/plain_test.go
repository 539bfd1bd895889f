package script_test

import (
	"fmt"
	"reflect"
	"regexp"
	"strconv"
	"strings"

	"hearsay/api"
)

// What follows is chapter 25 by its words (and chapter 4's, by regular expressions); it asks nothing of the layers below.

// plainRow: a line's name, its kind and its parts, as the chapter's table has them.
type plainRow struct {
	name  string
	kind  int
	parts []string
}

func plainRows() []plainRow {
	var rows []plainRow
	for i, line := range texts(
		"enroll Who", "assert Who Text", "retract Who Text", "export Who Text N", "import Who N", "forget Who Text", "query Who Text N", "ask Who Text", "watch Who Text", "news Who N", "why Who Text", "loss Who To",
		"prove Who Text N", "show Who N", "clauses Who", "drop N", "copy N", "swap N M", "flip N M K", "cut N M", "forge Bytes", "waiting", "crash Who M", "redundant Who",
	) {
		words := strings.Fields(line)
		rows = append(rows, plainRow{words[0], i + 1, words[1:]})
	}
	return rows
}

// plainKinds: of tokens, with how those are written that are always written alike.
func plainKinds() []string {
	return texts("none", "a word", "a variable", "a text", "a number", "says", "(", ")", ",", ";", ".", ":-", "?", "=", "!=", "<", "<=")
}

var (
	plainBetween = regexp.MustCompile(`^(?:[ \t\n\r]|%[^\n]*)*`)
	plainRun     = regexp.MustCompile(`^-?\w*`)
	plainWord    = regexp.MustCompile(`^[a-z]\w*$`)
	plainVar     = regexp.MustCompile(`^[A-Z_]\w*$`)
	plainNumber  = regexp.MustCompile(`^(?:0|-?[1-9][0-9]*)$`)
	plainInside  = regexp.MustCompile(`^"(?:[^\x00-\x1f"\\\x7f]|\\["\\nt]|\\x[0-9a-fA-F]{2})*`)
	plainEscape  = regexp.MustCompile(`\\(?:x..|.)`)
)

func plainMeaning(inside string) string {
	return plainEscape.ReplaceAllStringFunc(inside, func(e string) string {
		switch e[1] {
		case 'n':
			return "\n"
		case 't':
			return "\t"
		case 'x':
			n, _ := strconv.ParseUint(e[2:], 16, 8)
			return string([]byte{byte(n)})
		}
		return e[1:]
	})
}

// plainToken: with which s begins, its places as if s were the line; or the fault.
func plainToken(s string) (api.Token, api.Fault) {
	if s[0] == '"' {
		return plainText(s)
	}
	run := plainRun.FindString(s)
	switch {
	case run == "says":
		return api.Token{Kind: 5, End: 4}, api.Fault{}
	case plainWord.MatchString(run):
		return api.Token{Kind: 1, Text: run, End: len(run)}, api.Fault{}
	case plainVar.MatchString(run):
		return api.Token{Kind: 2, Text: run, End: len(run)}, api.Fault{}
	case run != "":
		n, err := strconv.Atoi(run)
		if err != nil || !plainNumber.MatchString(run) {
			return api.Token{}, api.Fault{Err: 45}
		}
		return api.Token{Kind: 4, N: n, End: len(run)}, api.Fault{}
	}
	kinds := plainKinds()
	for kind := len(kinds) - 1; kind > 5; kind-- { // the longer of two that begin alike stands behind the other
		if strings.HasPrefix(s, kinds[kind]) {
			return api.Token{Kind: kind, End: len(kinds[kind])}, api.Fault{}
		}
	}
	return api.Token{}, api.Fault{Err: 42}
}

func plainText(s string) (api.Token, api.Fault) {
	good := plainInside.FindString(s)
	switch rest := s[len(good):]; {
	case rest == "":
		return api.Token{}, api.Fault{Err: 43}
	case rest[0] == '"':
		return api.Token{Kind: 3, Text: plainMeaning(good[1:]), End: len(good) + 1}, api.Fault{}
	}
	return api.Token{}, api.Fault{Err: 44, At: len(good)}
}

func plainCut(s string) ([]api.Token, api.Fault) {
	var out []api.Token
	for p := 0; ; {
		p += len(plainBetween.FindString(s[p:]))
		if p == len(s) {
			return out, api.Fault{}
		}
		t, f := plainToken(s[p:])
		if f.Err != 0 {
			return nil, api.Fault{Err: f.Err, At: p + f.At}
		}
		t.At, t.End = p, p+t.End
		out = append(out, t)
		p = t.End
	}
}

// plainField: the field of the step that the part stands for, to be set too.
func plainField(d *api.Do, part string) reflect.Value {
	return reflect.ValueOf(d).Elem().FieldByName(part)
}

// plainSuits: whether a token of this kind may stand where the part should.
func plainSuits(part string, kind int) bool {
	switch part {
	case "Who", "To":
		return kind == 1 || kind == 3
	case "Text", "Bytes":
		return kind == 3
	}
	return kind == 4
}

func plainPut(d *api.Do, part string, t api.Token) {
	switch part {
	case "Bytes":
		d.Bytes = []byte(t.Text)
	case "N", "M", "K":
		plainField(d, part).SetInt(int64(t.N))
	default:
		plainField(d, part).SetString(t.Text)
	}
}

func plainRead(line string) (api.Do, api.Fault) {
	if len(line) > 65536 {
		return api.Do{}, api.Fault{Err: 251}
	}
	l, f := plainCut(line)
	if f.Err != 0 {
		return api.Do{}, f
	}
	if len(l) == 0 {
		return api.Do{}, api.Fault{Err: 252, At: len(line)}
	}
	for _, r := range plainRows() {
		if l[0].Kind == 1 && l[0].Text == r.name {
			return plainParts(r, l[1:], len(line))
		}
	}
	return api.Do{}, api.Fault{Err: 252, At: l[0].At}
}

func plainParts(r plainRow, l []api.Token, length int) (api.Do, api.Fault) {
	d := api.Do{Kind: r.kind}
	for i, t := range l {
		if i >= len(r.parts) || !plainSuits(r.parts[i], t.Kind) {
			return api.Do{}, api.Fault{Err: 253, At: t.At}
		}
		plainPut(&d, r.parts[i], t)
	}
	if len(l) < len(r.parts) {
		return api.Do{}, api.Fault{Err: 253, At: length}
	}
	return d, api.Fault{}
}

func plainQuote(s string) string {
	var b strings.Builder
	b.WriteByte('"')
	for i := range len(s) {
		switch c := s[i]; {
		case c == 9:
			b.WriteString(`\t`)
		case c == 10:
			b.WriteString(`\n`)
		case c == 34 || c == 92:
			b.WriteString(`\` + string(rune(c)))
		case c < 32 || c > 126:
			fmt.Fprintf(&b, `\x%02x`, c)
		default:
			b.WriteByte(c)
		}
	}
	return b.String() + `"`
}

// plainSpelling: of one field of the step.
func plainSpelling(d api.Do, part string) string {
	switch v := plainField(&d, part); part {
	case "Who", "To":
		if s := v.String(); plainWord.MatchString(s) && s != "says" {
			return s
		}
		return plainQuote(v.String())
	case "Text":
		return plainQuote(d.Text)
	case "Bytes":
		return plainQuote(string(d.Bytes))
	default:
		return fmt.Sprint(v.Int())
	}
}

// allParts: what a step may say, whatever its kind.
func allParts() []string { return texts("Who", "To", "Text", "Bytes", "N", "M", "K") }

func plainPrint(d api.Do) (string, bool) {
	for _, r := range plainRows() {
		if r.kind != d.Kind {
			continue
		}
		line, rest := r.name, d
		for _, part := range r.parts {
			line += " " + plainSpelling(d, part)
			plainField(&rest, part).SetZero()
		}
		if !same(rest, api.Do{Kind: d.Kind}) || len(line) > 65536 {
			return "", false
		}
		return line, true
	}
	return "", false
}

func plainLines(text string) []string {
	l := strings.Split(text, "\n")
	if l[len(l)-1] == "" {
		l = l[:len(l)-1]
	}
	return l
}

func plainBlank(line string) bool { return plainBetween.FindString(line) == line }
