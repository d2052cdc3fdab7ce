// Package step tells what follows at once: see doc/04-step.md.
package step

import (
	"lore/api"
	"lore/check"
	"lore/fit"
	"lore/hold"
	"lore/text"
)

// Step tells what all clauses make of facts (E3).
func Step(s string, facts []api.Atom) ([]api.Atom, api.Errno, int) {
	if e, place := refused(s, facts); e != api.OK {
		return nil, e, place
	}
	return makeAll(clauses(s), facts), api.OK, 0
}

// Holds tells what one clause makes of facts (E3).
func Holds(s string, facts []api.Atom, clause int) ([]api.Atom, api.Errno, int) {
	if e, place := refused(s, facts); e != api.OK {
		return nil, e, place
	}
	l := clauses(s)
	if clause < 0 || clause >= len(l) {
		return nil, api.ErrNone, 0
	}
	return makeAll(l[clause:clause+1], facts), api.OK, 0
}

// refused tells what is wrong with a program, or the first of facts that does not fit it (E1).
func refused(s string, facts []api.Atom) (api.Errno, int) {
	levels, e, place := check.Check(s)
	if e != api.OK {
		return e, place
	}
	terms := fit.Of(levels)
	for i, a := range facts {
		if e := terms.Look(a); e != api.OK {
			return e, i
		}
	}
	return api.OK, 0
}

func clauses(s string) []api.Clause {
	p, _, _ := text.Parse(s)
	return p.Clauses
}

func makeAll(clauses []api.Clause, facts []api.Atom) []api.Atom {
	store, made := hold.Of(facts), hold.Store{}
	for _, c := range clauses {
		for v := range store.Makes(hold.RuleOf(c), hold.Values{}, made) {
			made.Put(v.Made(c.Head))
		}
	}
	return made.List()
}
