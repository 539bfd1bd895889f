package run_test

import (
	"fmt"
	"reflect"
	"slices"
	"strings"
	"sync"
	"testing"

	"hearsay/api"
	"hearsay/run"
)

// R3, R4: what is handed in stays, its spare room too, and isn't kept; what is answered is new memory; nothing is kept from call to call.

// withSpare: the same with lists that are others, and have spare room in which the same things stand once more.
func withSpare(v reflect.Value) reflect.Value {
	out := reflect.New(v.Type()).Elem()
	switch v.Kind() {
	case reflect.Slice:
		l := reflect.MakeSlice(v.Type(), 0, 2*v.Len()+3)
		for i := range 2 * v.Len() {
			l = reflect.Append(l, withSpare(v.Index(i%v.Len())))
		}
		out.Set(l.Slice(0, v.Len()))
	case reflect.Struct:
		for i := range v.NumField() {
			out.Field(i).Set(withSpare(v.Field(i)))
		}
	default:
		out.Set(v)
	}
	return out
}

func spared[T any](x T) T { return withSpare(reflect.ValueOf(x)).Interface().(T) }

// sees: all that stands in it, in the spare room of its lists too.
func sees(b *strings.Builder, v reflect.Value) {
	switch v.Kind() {
	case reflect.Slice:
		fmt.Fprint(b, v.Len(), "of", v.Cap(), "[")
		for i := range v.Cap() {
			sees(b, v.Slice(0, v.Cap()).Index(i))
		}
		b.WriteString("]")
	case reflect.Struct:
		b.WriteString("{")
		for i := range v.NumField() {
			sees(b, v.Field(i))
		}
		b.WriteString("}")
	default:
		fmt.Fprintf(b, "%#v;", v.Interface())
	}
}

func seen(x any) string {
	var b strings.Builder
	sees(&b, reflect.ValueOf(x))
	return b.String()
}

// spoilAll: all lists in it are written over, their spare room too.
func spoilAll(v reflect.Value) {
	switch v.Kind() {
	case reflect.Slice:
		all := v.Slice(0, v.Cap())
		for i := range all.Len() {
			spoilAll(all.Index(i))
			all.Index(i).SetZero()
		}
	case reflect.Struct:
		for i := range v.NumField() {
			spoilAll(v.Field(i))
		}
	}
}

// rich: many lists, and lists of lists.
func rich(t *testing.T) api.Told {
	atoms, _ := someAtoms()
	return api.Told{N: 3, Id: api.Digest{1}, Atoms: atoms, Gone: atoms[1:3], Clauses: clauses(t, "may(X) :- alice says good(X), X != dan. p(1, 2)."), Proofs: someProofs(t), Nums: ints(3, 1, 2)}
}

func TestToldStays(t *testing.T) {
	for _, kind := range append(kinds(), noKinds()...) {
		for _, err := range []api.Errno{api.OK, api.ErrFuel} {
			told, d := spared(rich(t)), spared(api.Do{Kind: kind, Who: "ann", Text: "p?", Bytes: []byte("bytes")})
			told.Err = err
			before, beforeDo := seen(told), seen(d)
			got := run.Tell(d, told)
			want := slices.Clone(got)
			if seen(told) != before || seen(d) != beforeDo {
				t.Errorf("R3: Tell of kind %d has changed what it was given", kind)
			}
			fill(got[len(got):cap(got)], "#")
			fill(got[:0], "#")
			if seen(told) != before || seen(d) != beforeDo {
				t.Errorf("R3: what Tell of kind %d answers shares memory with what it was given", kind)
			}
			got = run.Tell(d, told)
			spoilAll(reflect.ValueOf(told))
			spoilAll(reflect.ValueOf(d))
			wantLines(t, "R3", fmt.Sprint("kind ", kind), got, want)
		}
	}
}

// TestSpareRoomIsNotSeen: what is told hangs on the lists' own things alone.
func TestSpareRoomIsNotSeen(t *testing.T) {
	for _, kind := range append(kinds(), noKinds()...) {
		wantLines(t, "R3", fmt.Sprint("kind ", kind), run.Tell(api.Do{Kind: kind}, spared(rich(t))), run.Tell(api.Do{Kind: kind}, rich(t)))
	}
}

// fill: all of the list, its spare room too.
func fill(l []string, mark string) {
	l = l[:cap(l)]
	for i := range l {
		l[i] = mark
	}
}

// wantApart: no two of these answers share memory: each is written over, and grown.
func wantApart(t *testing.T, what string, answers [][]string) {
	t.Helper()
	want := make([][]string, len(answers))
	for i, l := range answers {
		want[i] = slices.Clone(l)
	}
	for i, l := range answers {
		_ = append(l, "grown")
		fill(l, "#")
		for j, other := range answers[i+1:] {
			if !slices.Equal(other, want[i+1+j]) {
				t.Errorf("R3: %s: two answers share memory", what)
				return
			}
		}
	}
	for i, l := range answers {
		fill(l, fmt.Sprint(i))
	}
	for i, l := range answers {
		if slices.ContainsFunc(l[:cap(l)], func(s string) bool { return s != fmt.Sprint(i) }) {
			t.Errorf("R3: %s: two answers share spare room", what)
			return
		}
	}
}

func TestToldLinesAreNewMemory(t *testing.T) {
	for _, kind := range append(kinds(), noKinds()...) {
		told := rich(t)
		want := plainTell(api.Do{Kind: kind}, told)
		var all [][]string
		for range 5 {
			all = append(all, run.Tell(api.Do{Kind: kind}, told), run.Tell(api.Do{Kind: kind}, api.Told{Err: 5, At: 6}))
		}
		wantApart(t, fmt.Sprint("Tell of kind ", kind), all)
		wantTell(t, "R3", api.Do{Kind: kind}, told, want...)
	}
}

func TestRunsLinesAreNewMemory(t *testing.T) {
	for _, text := range append(allExamples(), "", "%", "enroll ann", "!") {
		text = exampleText(text)
		want := plainRun("s", text)
		var all [][]string
		for range 5 {
			all = append(all, run.Run("s", text))
		}
		wantApart(t, text, all)
		wantRun(t, "R3", text, want...)
	}
}

// TestNothingIsKept: the same text twice, and behind any other: the same is told.
func TestNothingIsKept(t *testing.T) {
	c := newChosen(274)
	var some []string
	for _, text := range allExamples() {
		some = append(some, exampleText(text))
	}
	for range 20 {
		some = append(some, c.script(40))
	}
	some = append(some, "", "enroll ann\nenroll bob", strings.Repeat("waiting\n", api.MaxLines+5), strings.Repeat("forge \"x\"\n", api.MaxLines))
	var want [][]string
	for _, text := range some {
		want = append(want, run.Run("s", text))
	}
	for range 150 {
		i := c.Intn(len(some))
		if c.Intn(4) == 0 {
			run.Run("t", some[i])
			run.Tell(api.Do{Kind: api.DoQuery}, rich(t))
			continue
		}
		got := run.Run("s", some[i])
		wantLines(t, "P26.5", some[i], got, want[i])
		fill(got, "#")
	}
}

// TestTogether: calls from several goroutines at one time have nothing to do with one another.
func TestTogether(t *testing.T) {
	told := rich(t)
	var all sync.WaitGroup
	for seed := range int64(8) {
		all.Go(func() {
			c := newChosen(seed)
			for range 15 {
				text := c.script(25)
				wantLines(t, "R4", text, run.Run("s", text), plainRun("s", text))
				kind := one(c, kinds()...)
				wantTell(t, "R4", api.Do{Kind: kind}, told, plainTell(api.Do{Kind: kind}, told)...)
			}
		})
	}
	all.Wait()
}
