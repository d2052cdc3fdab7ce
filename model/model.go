// Package model tells what follows: see doc/05-model.md. (Not built yet: its face alone, which answers zero values.)
package model

import "lore/api"

// Model tells all that follows from facts (F2).
func Model(s string, facts []api.Atom) ([]api.Atom, api.Errno, int) { return nil, api.OK, 0 }
