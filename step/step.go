// Package step tells what follows at once: see doc/04-step.md. (Not built yet: its face alone, which answers zero values.)
package step

import "lore/api"

// Step tells what all clauses make of facts (E3).
func Step(s string, facts []api.Atom) ([]api.Atom, api.Errno, int) { return nil, api.OK, 0 }

// Holds tells what one clause makes of facts (E3).
func Holds(s string, facts []api.Atom, clause int) ([]api.Atom, api.Errno, int) {
	return nil, api.OK, 0
}
