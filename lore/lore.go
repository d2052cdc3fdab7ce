// Package lore answers lines: see doc/09-lore.md. (Not built yet: its face alone, which answers zero values.)
package lore

import "lore/api"

// Run answers a script's lines (M1).
func Run(s string, lines []string) ([]string, api.Errno, int) { return nil, api.OK, 0 }

// RunAll answers scripts by several goroutines (M2).
func RunAll(s string, scripts [][]string, workers int) ([][]string, api.Errno, int) {
	return nil, api.OK, 0
}
