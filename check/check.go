// Package check looks whether a program means something: see doc/03-check.md.
package check

import (
	"maps"
	"slices"

	"lore/api"
	"lore/text"
)

// Check tells on which level each name is worked out (D1 to D3).
func Check(s string) ([]api.Level, api.Errno, int) {
	p, e, place := text.Parse(s)
	if e != api.OK {
		return nil, e, place
	}
	l := sentences(s, p)
	counts, place, found := count(l)
	if found {
		return nil, api.ErrArity, place
	}
	if place, found := unbound(l); found {
		return nil, api.ErrSafe, place
	}
	n := needed(l)
	if place, found := ring(l, n); found {
		return nil, api.ErrRing, place
	}
	return levels(counts, n), api.OK, 0
}

// count tells how many Terms each Name has, or the place of the first atom that has another number of them than those ahead.
func count(l []sentence) (counts map[string]int, place int, found bool) {
	counts = map[string]int{}
	for _, t := range l {
		for _, p := range t {
			if p.role == compared {
				continue
			}
			n, stood := counts[p.name]
			if stood && n != p.terms {
				return nil, p.place, true
			}
			counts[p.name] = p.terms
		}
	}
	return counts, 0, false
}

// unbound tells the place of the first variable that nothing binds.
func unbound(l []sentence) (place int, found bool) {
	for _, t := range l {
		bound := boundIn(t)
		for _, p := range t {
			for _, v := range p.variables {
				if _, ok := bound[v.name]; !ok {
					return v.place, true
				}
			}
		}
	}
	return 0, false
}

func boundIn(t sentence) map[string]struct{} {
	bound := map[string]struct{}{}
	for _, p := range t {
		if p.role != plain {
			continue
		}
		for _, v := range p.variables {
			bound[v.name] = struct{}{}
		}
	}
	return bound
}

// needs has, for the Name of a head, the Names of the atoms in its bodies, and by how much its level is at least above theirs: 1, if one of them is denied, else 0.
type needs map[string]map[string]int

func needed(l []sentence) needs {
	n := needs{}
	for _, t := range l {
		if t[0].role != head {
			continue
		}
		below := n[t[0].name]
		if below == nil {
			below = map[string]int{}
			n[t[0].name] = below
		}
		for _, p := range t[1:] {
			if p.role != compared {
				below[p.name] = max(below[p.name], p.above())
			}
		}
	}
	return n
}

func (p part) above() int {
	if p.role == denied {
		return 1
	}
	return 0
}

// ring tells the place of the first `!` that denies what hangs on the head of its clause.
func ring(l []sentence, n needs) (place int, found bool) {
	hangs := map[string]map[string]struct{}{}
	for _, t := range l {
		if t[0].role != head {
			continue
		}
		for _, p := range t[1:] {
			if p.role != denied {
				continue
			}
			if hangs[p.name] == nil {
				hangs[p.name] = n.hangs(p.name)
			}
			if _, ok := hangs[p.name][t[0].name]; ok {
				return p.not, true
			}
		}
	}
	return 0, false
}

// hangs tells all Names on which a Name hangs (D2).
func (n needs) hangs(name string) map[string]struct{} {
	on := map[string]struct{}{name: {}}
	for ahead := []string{name}; len(ahead) > 0; {
		next := ahead[0]
		ahead = ahead[1:]
		for below := range n[next] {
			if _, known := on[below]; !known {
				on[below] = struct{}{}
				ahead = append(ahead, below)
			}
		}
	}
	return on
}

// levels raises what is too low till nothing is (D3). That ends, for no Name needs to be above itself: there is no ring with a `!` in it.
func levels(counts map[string]int, n needs) []api.Level {
	level := map[string]int{}
	for rising := true; rising; {
		rising = false
		for name, below := range n {
			for other, above := range below {
				if least := level[other] + above; level[name] < least {
					level[name] = least
					rising = true
				}
			}
		}
	}
	var l []api.Level
	for _, name := range slices.Sorted(maps.Keys(counts)) {
		l = append(l, api.Level{Name: name, Terms: counts[name], Level: level[name]})
	}
	return l
}
