// Package step tells what follows at once: see doc/04-step.md.
package step

import (
	"maps"
	"slices"

	"lore/api"
	"lore/check"
	"lore/hold"
	"lore/rows"
	"lore/text"
)

// Step tells what all clauses make of facts (E3).
func Step(s string, facts []api.Atom) ([]api.Atom, api.Errno, int) {
	if e, place := refused(s, facts); e != api.OK {
		return nil, e, place
	}
	return makeAll(clauses(s), facts), api.OK, 0
}

// Holds tells what one clause makes of facts (E3).
func Holds(s string, facts []api.Atom, clause int) ([]api.Atom, api.Errno, int) {
	if e, place := refused(s, facts); e != api.OK {
		return nil, e, place
	}
	l := clauses(s)
	if clause < 0 || clause >= len(l) {
		return nil, api.ErrNone, 0
	}
	return makeAll(l[clause:clause+1], facts), api.OK, 0
}

// refused tells what is wrong with a program, or the first of facts that does not fit it (E1).
func refused(s string, facts []api.Atom) (api.Errno, int) {
	levels, e, place := check.Check(s)
	if e != api.OK {
		return e, place
	}
	terms := map[string]int{}
	for _, l := range levels {
		terms[l.Name] = l.Terms
	}
	for i, a := range facts {
		if !rows.Fact(a) {
			return api.ErrFact, i
		}
		if n, stands := terms[a.Name]; stands && n != len(a.Terms) {
			return api.ErrArity, i
		}
	}
	return api.OK, 0
}

func clauses(s string) []api.Clause {
	p, _, _ := text.Parse(s)
	return p.Clauses
}

func makeAll(clauses []api.Clause, facts []api.Atom) []api.Atom {
	store := hold.Store{}
	for _, a := range facts {
		store.Put(a)
	}
	m := made{}
	for _, c := range clauses {
		m.add(c, store)
	}
	return rows.Union(slices.Collect(maps.Values(m)), nil)
}

// made is atoms by their plain forms: no two have the same.
type made map[string]api.Atom

// add lays to it what a clause makes (E2).
func (m made) add(c api.Clause, store hold.Store) {
	body := hold.Ready(c.Body)
	enough := hold.Enough(body, c.Head)
	for v := range store.Ways(body[:enough], hold.Values{}) {
		a := v.Made(c.Head)
		shown := text.Show(a)
		if _, there := m[shown]; there {
			continue
		}
		for range store.Ways(body[enough:], v) {
			m[shown] = a
			break // the atom is made, however many ways there are more
		}
	}
}
