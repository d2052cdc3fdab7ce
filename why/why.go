// Package why tells reasons: see doc/06-why.md. (Not built yet: its face alone, which answers zero values.)
package why

import "lore/api"

// Why tells why something is in the model (H3).
func Why(s string, facts []api.Atom, goal api.Atom) ([]api.Reason, api.Errno, int) {
	return nil, api.OK, 0
}

// Right tells whether reasons are right (H2).
func Right(s string, facts []api.Atom, l []api.Reason) bool { return false }
