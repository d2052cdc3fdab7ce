package hold

import (
	"iter"

	"lore/api"
	"lore/rows"
	"lore/signs"
	"lore/text"
)

// Store is facts, by their Names.
type Store map[string]*shelf

// shelf has the facts of one Name: all of them, and by each of their terms.
type shelf struct {
	all   []api.Atom
	with  map[spot][]api.Atom
	shown map[string]struct{} // their plain forms: no two facts have the same
}

// spot is a term at its number in an atom.
type spot struct {
	number int
	term   api.Term
}

// Of is a store of facts.
func Of(facts []api.Atom) Store {
	s := Store{}
	for _, a := range facts {
		s.Put(a)
	}
	return s
}

// List tells all facts of the store, in order.
func (s Store) List() []api.Atom {
	var l []api.Atom
	for _, on := range s {
		l = append(l, on.all...)
	}
	return rows.Union(l, nil)
}

// Put lays a fact into the store, if it is not there yet.
func (s Store) Put(fact api.Atom) {
	on := s[fact.Name]
	if on == nil {
		on = &shelf{with: map[spot][]api.Atom{}, shown: map[string]struct{}{}}
		s[fact.Name] = on
	}
	shown := text.Show(fact)
	if _, there := on.shown[shown]; there {
		return
	}
	on.shown[shown] = struct{}{}
	kept := Bare(fact)
	on.all = append(on.all, kept)
	for i, t := range kept.Terms {
		on.with[spot{i, t}] = append(on.with[spot{i, t}], kept)
	}
}

// Bare leaves of each term only what its Kind tells: then those that are the same are equal.
func Bare(a api.Atom) api.Atom {
	b := api.Atom{Name: a.Name}
	for _, t := range a.Terms {
		if t.Kind == signs.Number {
			b.Terms = append(b.Terms, api.Term{Kind: t.Kind, Num: t.Num})
		} else {
			b.Terms = append(b.Terms, api.Term{Kind: t.Kind, Text: t.Text})
		}
	}
	return b
}

// Has tells whether a fact is in the store.
func (s Store) Has(fact api.Atom) bool {
	on := s[fact.Name]
	if on == nil {
		return false
	}
	_, there := on.shown[text.Show(fact)]
	return there
}

// Makes goes through ways in which a rule, with the values that are there, makes an atom that is not known yet: one for each, if what comes is made known at once.
func (s Store) Makes(r Rule, v Values, known Store) iter.Seq[Values] {
	return func(yield func(Values) bool) {
		for v := range s.Ways(r.first, v) {
			if known.Has(v.Made(r.Head)) {
				continue
			}
			for v := range s.Ways(r.rest, v) {
				if !yield(v) {
					return
				}
				break // the atom is made, however many ways there are more
			}
		}
	}
}

// Ways goes through the ways in which a body that is Ready holds, with the values that are there. For each it yields these values and those of all other variables; behind it, if it is left there too, it takes the others away.
func (s Store) Ways(body []api.Literal, v Values) iter.Seq[Values] {
	return func(yield func(Values) bool) {
		s.walk(body, v, yield)
	}
}

// walk tells whether it went through all ways, and was not left.
func (s Store) walk(body []api.Literal, v Values, yield func(Values) bool) bool {
	if len(body) == 0 {
		return yield(v)
	}
	if l := body[0]; !Gives(l) {
		return !s.Passes(l, v) || s.walk(body[1:], v, yield)
	}
	a := v.Made(body[0].Atom)
	for _, fact := range s.near(a) {
		given, ok := v.Meet(a, fact)
		goOn := !ok || s.walk(body[1:], v, yield)
		v.Take(given)
		if !goOn {
			return false
		}
	}
	return true
}

// Passes tells whether a comparison is true, or a denied atom is not in the store.
func (s Store) Passes(l api.Literal, v Values) bool {
	if l.Op != "" {
		return v.Compare(l)
	}
	return !s.Has(v.Made(l.Atom))
}

// near tells the shortest list at hand in which are all facts that an atom can be.
func (s Store) near(a api.Atom) []api.Atom {
	on := s[a.Name]
	if on == nil {
		return nil
	}
	l, open := on.all, false
	for i, t := range a.Terms {
		if t.Kind == signs.Variable {
			open = true
		} else if with := on.with[spot{i, t}]; len(with) < len(l) {
			l = with
		}
	}
	if open || len(l) == 0 {
		return l
	}
	return s.only(a)
}

// only tells an atom without variables as a list, if it is in the store.
func (s Store) only(a api.Atom) []api.Atom {
	if s.Has(a) {
		return []api.Atom{a}
	}
	return nil
}
