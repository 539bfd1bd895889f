package script_test

import (
	"slices"
	"strings"
	"sync"
	"testing"

	"hearsay/api"
	"hearsay/script"
)

// P25.6, R3, R4: what is handed in stays, its spare room too, and isn't kept; what is answered is new memory.

// fill: all of the list, its spare room too.
func fill[T any](l []T, mark T) {
	l = l[:cap(l)]
	for i := range l {
		l[i] = mark
	}
}

// spoil: written over, and grown in every way that there is room for.
func spoil[T any](l []T, mark T) {
	_ = append(l, mark)
	_ = append(l[:0], slices.Repeat([]T{mark}, cap(l)+1)...)
	fill(l, mark)
}

// wantApart: no two of the lists share memory, spare room too. All are written over.
func wantApart[T comparable](t *testing.T, lists [][]T, mark func(i int) T) {
	t.Helper()
	for i, l := range lists {
		fill(l, mark(i))
	}
	for i, l := range lists {
		if slices.ContainsFunc(l[:cap(l)], func(x T) bool { return x != mark(i) }) {
			t.Errorf("R3: two lists of answers share memory")
			return
		}
	}
}

// spared: the text's bytes with spare room behind them that isn't zero.
func spared(text string) []byte { return append([]byte(text), "what stands behind it"...)[:len(text)] }

// TestBytesStay: Print leaves the bytes of a step and their spare room, whether it has a line or not; and what stands in the spare room isn't seen.
func TestBytesStay(t *testing.T) {
	for _, text := range append(someTexts(), "", strings.Repeat("a", mostBytes-8), strings.Repeat("a", mostBytes), strings.Repeat("\x80", mostBytes)) {
		for kind := -1; kind <= 26; kind++ {
			b := spared(text)
			whole := slices.Clone(b[:cap(b)])
			d := api.Do{Kind: kind, Bytes: b}
			line, ok := script.Print(d)
			if !slices.Equal(b[:cap(b)], whole) {
				t.Errorf("P25.6: Print(%s) has changed its bytes", shown(d))
			}
			spoil(b, '#')
			want, wantOk := plainPrint(api.Do{Kind: kind, Bytes: []byte(text)})
			if line != want || ok != wantOk {
				t.Errorf("P25.6: the line of %.50q is %.50q, %v behind a change of its bytes", text, line, ok)
			}
		}
	}
}

// TestStepStays: the step itself is the caller's.
func TestStepStays(t *testing.T) {
	for _, r := range plainRows() {
		d := stepOf(r)
		before, first := d, d.Bytes
		script.Print(d)
		if !same(d, before) || len(first) > 0 && &d.Bytes[0] != &first[0] {
			t.Errorf("P25.6: Print has changed its step: %s", shown(d))
		}
	}
}

// TestReadBytesAreNewMemory: of several answers, alive at one time, each can be written over and grown.
func TestReadBytesAreNewMemory(t *testing.T) {
	for _, text := range append(someTexts(), "", strings.Repeat("a", 60000)) {
		line := "forge " + plainQuote(text)
		if len(line) > mostBytes {
			continue
		}
		var lists [][]byte
		for range 5 {
			d, _ := script.Read(line)
			if string(d.Bytes) != text {
				t.Errorf("R3: the bytes of %.50q are %.50q", line, d.Bytes)
			}
			lists = append(lists, d.Bytes)
		}
		spoil(lists[2], '#')
		for _, i := range ints(0, 1, 3, 4) {
			if string(lists[i]) != text {
				t.Errorf("R3: two answers share memory: %.50q", lists[i])
			}
		}
		wantApart(t, lists, func(i int) byte { return byte(i) })
		wantRead(t, line, api.Do{Kind: api.DoForge, Bytes: []byte(text)})
	}
}

// TestReadBytesLiveAlone: a line is read, its bytes are printed, read and changed: no change is seen elsewhere.
func TestReadBytesLiveAlone(t *testing.T) {
	line := `forge "abc\x00"`
	d, _ := script.Read(line)
	printed, _ := script.Print(d)
	back, _ := script.Read(printed)
	spoil(d.Bytes, 'x')
	if string(back.Bytes) != "abc\x00" || printed != line {
		t.Errorf("R3: %q is read as %s", printed, shown(back))
	}
	back.Bytes = append(back.Bytes, "more"...)
	wantPrint(t, back, `forge "abc\x00more"`)
	wantPrint(t, d, `forge "xxxx"`)
}

// TestListsOfLinesAreNewMemory: written over and grown, several alive at one time.
func TestListsOfLinesAreNewMemory(t *testing.T) {
	for _, text := range append(shortTexts("a\n", 6), strings.Repeat("drop 1\n", 1000), strings.Repeat("\n", 999)+"x") {
		want := plainLines(text)
		var lists [][]string
		for range 5 {
			lists = append(lists, script.Lines(text))
		}
		spoil(lists[2], "#")
		for _, i := range ints(0, 1, 3, 4) {
			if !slices.Equal(lists[i], want) {
				t.Errorf("R3: two answers of Lines(%.50q) share memory", text)
			}
		}
		wantApart(t, lists, func(i int) string { return strings.Repeat("#", i+1) })
		wantLines(t, text, want...)
	}
}

// TestNothingKept: what a call answers doesn't hang on the calls ahead of it.
func TestNothingKept(t *testing.T) {
	c := newChosen(256)
	var lines []string
	var steps []api.Do
	for range 300 {
		lines = append(lines, c.line())
		steps = append(steps, c.step())
	}
	for range 5000 {
		line, d := one(c, lines...), one(c, steps...)
		switch c.Intn(4) {
		case 0:
			wantReadAsPlain(t, line)
		case 1:
			wantPrintAsPlain(t, d)
		case 2:
			wantBlank(t, line, plainBlank(line))
		case 3:
			spoil(script.Lines(line+"\n"+line), "#")
			read, _ := script.Read(line)
			spoil(read.Bytes, '#')
		}
	}
}

// TestTogether: calls may come from several goroutines at one time.
func TestTogether(t *testing.T) {
	var all sync.WaitGroup
	for seed := range int64(8) {
		all.Go(func() {
			c := newChosen(seed)
			for range 500 {
				text := c.line()
				wantReadAsPlain(t, text)
				wantPrintAsPlain(t, c.step())
				wantBlank(t, text, plainBlank(text))
				wantLines(t, text, plainLines(text)...)
			}
		})
	}
	all.Wait()
}
