// Package model tells what follows: see doc/05-model.md.
package model

import (
	"lore/api"
	"lore/grow"
	"lore/hold"
	"lore/step"
)

// Model tells all that follows from facts (F2).
func Model(s string, facts []api.Atom) ([]api.Atom, api.Errno, int) {
	// There is no clause -1: what Holds tells is Step's error, or ErrNone behind all of these.
	if _, e, place := step.Holds(s, facts, -1); e != api.ErrNone {
		return nil, e, place
	}
	store := hold.Of(facts)
	for range grow.All(s, store) {
		// how it comes does not matter here
	}
	return store.List(), api.OK, 0
}
