package run

// teller: takes what is told, a line at a time. Refusals, atoms, clauses and derivations all go to one, whatever becomes of their lines behind it.
type teller interface {
	line(text string)
}

// sheet: a teller that keeps the lines.
type sheet struct{ lines []string }

func (s *sheet) line(text string) { s.lines = append(s.lines, text) }

// margin: a teller that hands each line on with the same beginning.
type margin struct {
	to    teller
	begin string
}

func (m margin) line(text string) { m.to.line(m.begin + text) }
