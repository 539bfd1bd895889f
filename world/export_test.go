package world

import "hearsay/keys"

// RingOf: what no step shows: who has a key, and what each has signed.
func RingOf(w *World) *keys.Ring { return w.ring }
