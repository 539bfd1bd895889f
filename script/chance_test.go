package script_test

import (
	"math/rand"
	"slices"
	"strings"
	"testing"

	"hearsay/api"
	"hearsay/script"
)

// Lines and steps by chance, the same at every run, beside the chapter's words.

type chosen struct{ *rand.Rand }

func newChosen(seed int64) *chosen { return &chosen{rand.New(rand.NewSource(seed))} }

func one[T any](c *chosen, of ...T) T { return of[c.Intn(len(of))] }

// text: of any bytes, mostly of those that mean something.
func (c *chosen) text() string {
	const known = "abxyz_09 AX\"\\%\n\t().:-?=!<"
	var b []byte
	for range one(c, 0, 1, 1, 2, 3, 5, 8, 30) {
		if c.Intn(3) == 0 {
			b = append(b, byte(c.Intn(256)))
		} else {
			b = append(b, known[c.Intn(len(known))])
		}
	}
	return string(b)
}

func (c *chosen) name() string {
	if c.Intn(3) == 0 {
		return c.text()
	}
	return one(c, append(someNames()[:20], "")...)
}

func (c *chosen) number() int {
	if c.Intn(3) == 0 {
		return int(c.Uint64())
	}
	return one(c, append(someNumbers(), 0, 0, c.Intn(9), -c.Intn(99))...)
}

// step: of a kind in the table, mostly with what it has parts for; sometimes with more.
func (c *chosen) step() api.Do {
	r := one(c, plainRows()...)
	d := api.Do{Kind: r.kind}
	for _, part := range r.parts {
		d = c.put(d, part)
	}
	if c.Intn(8) == 0 {
		d = c.put(d, one(c, allParts()...))
	}
	if c.Intn(30) == 0 {
		d.Kind = c.number()
	}
	return d
}

func (c *chosen) put(d api.Do, part string) api.Do {
	switch part {
	case "Who", "To":
		return with(d, part, c.name())
	case "Text":
		return with(d, part, c.text())
	case "Bytes":
		return with(d, part, []byte(c.text()))
	}
	return with(d, part, c.number())
}

func TestStepsByChance(t *testing.T) {
	c := newChosen(251)
	for range 40000 {
		d := c.step()
		wantPrintAsPlain(t, d)
		wantBackFromPrint(t, d)
	}
}

func (c *chosen) gap() string {
	if c.Intn(2) == 0 {
		return " "
	}
	return one(c, gaps()[:13]...)
}

// written: a piece that suits the part, written in one of the ways that there are.
func (c *chosen) written(part string) piece {
	if plainSuits(part, api.TokText) && c.Intn(2) == 0 {
		s := c.text()
		return quoted(c.escaped(s), s)
	}
	return one(c, suiting(part)...)
}

// escaped: the inside of a quoted text; not as short as it could be.
func (c *chosen) escaped(s string) string {
	const digits = "0123456789abcdef"
	var b strings.Builder
	for i := range len(s) {
		x := s[i]
		switch {
		case x < 32 || x == '"' || x == '\\' || x == 127 || c.Intn(4) == 0:
			pair := string([]byte{digits[x>>4], digits[x&15]})
			b.WriteString(`\x` + one(c, pair, strings.ToUpper(pair)))
		default:
			b.WriteByte(x)
		}
	}
	return b.String()
}

// line: of a row, mostly right; pieces are sometimes left out, replaced, doubled, or moved, or one is no token.
func (c *chosen) line() string {
	r := one(c, plainRows()...)
	l := []piece{word(r.name)}
	for _, part := range r.parts {
		l = append(l, c.written(part))
	}
	for c.Intn(3) == 0 {
		i := c.Intn(len(l))
		switch c.Intn(6) {
		case 0:
			l = slices.Delete(l, i, i+1)
		case 1:
			l[i] = one(c, pieces()...)
		case 2:
			l = slices.Insert(l, i, one(c, pieces()...))
		case 3:
			l = append(l, l[i])
		case 4:
			j := c.Intn(len(l))
			l[i], l[j] = l[j], l[i]
		case 5:
			l[i] = piece{text: one(c, uncuts()...).text}
		}
		if len(l) == 0 {
			break
		}
	}
	text, _ := laid(l, func(i int) string {
		if (i == 0 || i == len(l)) && c.Intn(2) == 0 || c.Intn(12) == 0 {
			return ""
		}
		return c.gap()
	})
	return text
}

// spoilt: one byte of the line is another, or goes, or comes.
func (c *chosen) spoilt(line string) string {
	i := c.Intn(len(line) + 1)
	x := one(c, string([]byte{byte(c.Intn(256))}), " ", "\"", "%", "\n", "a", "0")
	switch {
	case i == len(line):
		return line + x
	case c.Intn(3) == 0:
		return line[:i] + line[i+1:]
	case c.Intn(2) == 0:
		return line[:i] + x + line[i:]
	}
	return line[:i] + x + line[i+1:]
}

func TestLinesByChance(t *testing.T) {
	c := newChosen(252)
	read := 0
	for range 40000 {
		text := c.line()
		if c.Intn(5) == 0 {
			text = c.spoilt(text)
		}
		wantReadAsPlain(t, text)
		wantBlank(t, text, plainBlank(text))
		wantBackFromRead(t, text)
		if _, f := script.Read(text); f.Err == api.OK {
			read++
		}
	}
	if read < 10000 || read > 35000 {
		t.Errorf("%d of 40000 lines say a step: the chances are too uneven", read)
	}
}

// TestTextsByChance: of lines, cut, and each of them told.
func TestTextsByChance(t *testing.T) {
	c := newChosen(253)
	for range 2000 {
		text := ""
		for range c.Intn(12) {
			text += one(c, c.line(), c.text(), "", " ", "% so") + one(c, "\n", "\n", "\n", "\r\n", "\n\n", "")
		}
		wantLines(t, text, plainLines(text)...)
		for _, l := range script.Lines(text) {
			wantReadAsPlain(t, l)
			wantBlank(t, l, plainBlank(l))
		}
	}
}

// TestShortLines: every line of up to four of some pieces, with a blank or nothing between two.
func TestShortLines(t *testing.T) {
	some := texts("drop", "swap", "enroll", "forge", "waiting", "assert", "says", "X", "\"x\"", "1", "-2", ",", "%", "\n", "!", "\"")
	all := texts("")
	for range 3 {
		var longer []string
		for _, l := range all {
			for _, s := range some {
				longer = append(longer, l+s, l+" "+s)
			}
		}
		for _, l := range longer {
			wantReadAsPlain(t, l)
			wantBackFromRead(t, l)
		}
		all = longer
	}
}
