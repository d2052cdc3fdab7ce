// Package lore answers lines: see doc/09-lore.md.
package lore

import (
	"lore/api"
	"lore/live"
)

const maxWorkers = 16

// Run answers a script's lines (M1).
func Run(s string, lines []string) ([]string, api.Errno, int) {
	l, e, place := live.New(s)
	if e != api.OK {
		return nil, e, place
	}
	r := run{program: s, live: l}
	var answers []string
	for _, line := range lines {
		answers = append(answers, r.answer(line))
	}
	return answers, api.OK, 0
}

// RunAll answers scripts by several goroutines (M2).
func RunAll(s string, scripts [][]string, workers int) ([][]string, api.Errno, int) {
	if workers < 1 || workers > maxWorkers {
		return nil, api.ErrRange, 0
	}
	if _, e, place := live.New(s); e != api.OK {
		return nil, e, place
	}
	return share(s, scripts, workers), api.OK, 0
}
