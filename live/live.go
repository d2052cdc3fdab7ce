// Package live keeps a model of facts that come and go: see doc/08-live.md.
package live

import (
	"lore/api"
	"lore/check"
	"lore/fit"
	"lore/hold"
	"lore/model"
	"lore/rows"
)

// Live is a program, and facts that are given to it. Make it by New.
type Live struct {
	program string
	terms   fit.Terms
	given   list
	last    *api.Atom // what came or went last; no pointer ahead of the first change
	now     *list     // the model; no pointer, if it was not made yet
	ahead   *list     // the model ahead of the last change, likewise
}

// New makes a live program (K1).
func New(s string) (*Live, api.Errno, int) {
	levels, e, place := check.Check(s)
	if e != api.OK {
		return nil, e, place
	}
	return &Live{program: s, terms: fit.Of(levels)}, api.OK, 0
}

// Add gives a fact (K2).
func (l *Live) Add(a api.Atom) api.Errno {
	if e := l.terms.Look(a); e != api.OK {
		return e
	}
	if l.given.has(a) {
		return api.ErrTwice
	}
	l.change(a)
	return api.OK
}

// Remove takes a fact back (K2).
func (l *Live) Remove(a api.Atom) api.Errno {
	if !l.given.has(a) {
		return api.ErrNone
	}
	l.change(a)
	return api.OK
}

// Given tells which facts are given (K3).
func (l *Live) Given() []api.Atom { return l.given.copied() }

// Model tells what follows (K3).
func (l *Live) Model() []api.Atom {
	l.now = l.made(l.now, l.given)
	return l.now.copied()
}

// News tells what the last change changed (K3).
func (l *Live) News() ([]api.Atom, []api.Atom) {
	if l.last == nil {
		return l.Model(), nil
	}
	l.now = l.made(l.now, l.given)
	l.ahead = l.made(l.ahead, l.given.turned(*l.last))
	return rows.Less(*l.now, *l.ahead), rows.Less(*l.ahead, *l.now)
}

// change gives a fact that is not given, and takes back one that is. Models wait till they are asked for: of many changes in a row nothing but what was ahead of the last one, and is behind it, can be.
func (l *Live) change(a api.Atom) {
	kept := hold.Bare(a)
	l.given.turn(kept)
	l.last, l.ahead, l.now = &kept, l.now, nil
}

// made tells the model of facts that fit the program: the one that is there, or, if there is none yet, a new one.
func (l *Live) made(there *list, given list) *list {
	if there != nil {
		return there
	}
	m, _, _ := model.Model(l.program, given)
	made := list(m)
	return &made
}
