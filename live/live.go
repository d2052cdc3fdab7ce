// Package live keeps a model of facts that come and go: see doc/08-live.md. (Not built yet: its face alone, which answers zero values.)
package live

import "lore/api"

// Live is a program, and facts that are given to it. Make it by New.
type Live struct{}

// New makes a live program (K1).
func New(s string) (*Live, api.Errno, int) { return nil, api.OK, 0 }

// Add gives a fact (K2).
func (l *Live) Add(a api.Atom) api.Errno { return api.OK }

// Remove takes a fact back (K2).
func (l *Live) Remove(a api.Atom) api.Errno { return api.OK }

// Given tells which facts are given (K3).
func (l *Live) Given() []api.Atom { return nil }

// Model tells what follows (K3).
func (l *Live) Model() []api.Atom { return nil }

// News tells what the last change changed (K3).
func (l *Live) News() ([]api.Atom, []api.Atom) { return nil, nil }
