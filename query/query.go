// Package query answers questions: see doc/07-query.md. (Not built yet: its face alone, which answers zero values.)
package query

import "lore/api"

// Ask answers a query over the model (J1).
func Ask(s string, facts []api.Atom, n int) ([]string, [][]api.Term, api.Errno, int) {
	return nil, nil, api.OK, 0
}
