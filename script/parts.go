package script

import (
	"strconv"

	"hearsay/api"
	"hearsay/tokens"
)

// part: what is done with one part of a line, which stands for one field of the step.
type part struct {
	take  func(taking, *api.Do) bool // off the line into the field; false, if the next token isn't it
	spell func(api.Do) string
	empty func(api.Do) bool // whether the step has nothing in the field
}

// parts: all that a line may have.
func parts() map[int]part {
	return map[int]part{
		partWho:   named(func(d *api.Do) *string { return &d.Who }),
		partTo:    named(func(d *api.Do) *string { return &d.To }),
		partText:  {takeText, spellText, noText},
		partBytes: {takeBytes, spellBytes, noBytes},
		partN:     numbered(func(d *api.Do) *int { return &d.N }),
		partM:     numbered(func(d *api.Do) *int { return &d.M }),
		partK:     numbered(func(d *api.Do) *int { return &d.K }),
	}
}

// named: a name, which is written bare where it can be.
func named(field func(*api.Do) *string) part {
	return part{
		take: func(take taking, d *api.Do) bool {
			t, ok := take(api.TokWord, api.TokText)
			*field(d) = t.Text
			return ok
		},
		spell: func(d api.Do) string {
			name := *field(&d)
			if tokens.Word(name) {
				return name
			}
			return tokens.Quote(name)
		},
		empty: func(d api.Do) bool { return *field(&d) == "" },
	}
}

func numbered(field func(*api.Do) *int) part {
	return part{
		take: func(take taking, d *api.Do) bool {
			t, ok := take(api.TokNum)
			*field(d) = t.N
			return ok
		},
		spell: func(d api.Do) string { return strconv.Itoa(*field(&d)) },
		empty: func(d api.Do) bool { return *field(&d) == 0 },
	}
}

func takeText(take taking, d *api.Do) bool {
	t, ok := take(api.TokText)
	d.Text = t.Text
	return ok
}

func spellText(d api.Do) string { return tokens.Quote(d.Text) }

func noText(d api.Do) bool { return d.Text == "" }

func takeBytes(take taking, d *api.Do) bool {
	t, ok := take(api.TokText)
	d.Bytes = []byte(t.Text)
	return ok
}

func spellBytes(d api.Do) string { return tokens.Quote(string(d.Bytes)) }

func noBytes(d api.Do) bool { return len(d.Bytes) == 0 }
