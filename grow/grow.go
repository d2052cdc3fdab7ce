// Package grow lays to facts all that follows from them (doc/05-model.md, F1), and tells how it comes.
package grow

import (
	"iter"

	"lore/api"
	"lore/hold"
)

// All lays to a store of facts that fit a program all that follows, level by level. It goes through it as it comes: the number of the clause that makes it, and the values with which that clause does.
func All(s string, store hold.Store) iter.Seq2[int, hold.Values] {
	return func(yield func(int, hold.Values) bool) {
		for _, l := range levels(s, store) {
			g := growth{level: l, yield: yield}
			if !g.grow() {
				return
			}
		}
	}
}

// growth is what comes on a level.
type growth struct {
	level
	all   []api.Atom // in the order in which they came
	yield func(int, hold.Values) bool
}

// grow lays all that the level's clauses make, till nothing more comes. It tells, as all of these do, whether it was not left.
func (g *growth) grow() bool {
	if !g.layAll(g.clauses) {
		return false
	}
	for from := 0; from < len(g.all); {
		last := g.all[from:]
		from = len(g.all)
		if !g.layAll(g.again) || !g.follow(last) {
			return false
		}
	}
	return true
}

// follow lays what clauses make of what came last and of all else.
func (g *growth) follow(last []api.Atom) bool {
	for _, a := range last {
		for _, j := range g.turns[a.Name] {
			v := hold.Values{}
			if _, ok := v.Meet(j.begins, a); ok && !g.lay(j, v) {
				return false
			}
		}
	}
	return true
}

func (g *growth) layAll(l []join) bool {
	for _, j := range l {
		if !g.lay(j, hold.Values{}) {
			return false
		}
	}
	return true
}

func (g *growth) lay(j join, v hold.Values) bool {
	for v := range j.Makes(j.Rule, v, j.Store) {
		a := v.Made(j.Head)
		j.Put(a)
		g.all = append(g.all, a)
		if !g.yield(j.number, v) {
			return false
		}
	}
	return true
}
