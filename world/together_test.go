package world_test

import (
	"runtime"
	"slices"
	"sync"
	"testing"
	"time"

	"hearsay/api"
	"hearsay/world"
)

// R4: steps and looks that change nothing may come from several goroutines at one time; worlds have nothing to do with one another.

// lookingSteps: those of the samples that change nothing, of the kinds that are looks.
func lookingSteps() []api.Do {
	all := sampleSteps()
	var l []api.Do
	for _, kind := range looks() {
		for i, d := range all[kind] {
			if i%5 == 0 {
				l = append(l, d)
			}
		}
	}
	return l
}

func TestLooksTogether(t *testing.T) {
	l := lookingSteps()
	for range 4 {
		w, alone := worldOf(t, richSteps()...), worldOf(t, richSteps()...)
		var want []api.Told
		for _, d := range l {
			want = append(want, alone.Do(d))
		}
		shown := seen(alone)
		var all sync.WaitGroup
		for part := range 8 {
			all.Go(func() {
				for i := range l {
					k := (i*7 + part*len(l)/8) % len(l)
					if got := w.Do(l[k]); !sameTold(got, want[k]) {
						t.Errorf("R4: asked by several, Do(%s) is %s, want %s", shownDo(l[k]), shownTold(got), shownTold(want[k]))
					}
					if i%20 == part && seen(w) != shown {
						t.Errorf("R4: asked by several, a world shows something else: %s", unlike(shown, seen(w)))
					}
				}
			})
		}
		all.Wait()
	}
}

// TestWorldsTogether: each goroutine has a world of its own.
func TestWorldsTogether(t *testing.T) {
	l := append(richSteps(), probes()...)
	want := world.Play([]byte("s"), l)
	var all sync.WaitGroup
	for range 8 {
		all.Go(func() {
			for range 5 {
				if got := world.Play([]byte("s"), l); !slices.EqualFunc(got, want, sameTold) {
					t.Error("R4: worlds disturb each other")
				}
			}
		})
	}
	all.Wait()
}

// TestNothingWorksOn: no goroutine that a step began is left when it is told.
func TestNothingWorksOn(t *testing.T) {
	before := runtime.NumGoroutine()
	world.Play([]byte("s"), append(richSteps(), probes()...))
	for range 100 { // one that has done its last work may be on its way out
		if runtime.NumGoroutine() <= before {
			return
		}
		time.Sleep(time.Millisecond)
	}
	t.Errorf("R4: %d goroutines are left", runtime.NumGoroutine()-before)
}
