// Package query answers questions: see doc/07-query.md.
package query

import (
	"slices"

	"lore/api"
	"lore/hold"
	"lore/model"
	"lore/rows"
	"lore/signs"
	"lore/text"
)

// Ask answers a query over the model (J1).
func Ask(s string, facts []api.Atom, n int) ([]string, [][]api.Term, api.Errno, int) {
	m, e, place := model.Model(s, facts)
	if e != api.OK {
		return nil, nil, e, place
	}
	p, _, _ := text.Parse(s)
	if n < 0 || n >= len(p.Queries) {
		return nil, nil, api.ErrNone, 0
	}
	names := variables(p.Queries[n])
	return names, answers(m, p.Queries[n], names), api.OK, 0
}

// variables tells those of a body, each once, in the order in which they first stand in it.
func variables(body []api.Literal) (names []string) {
	for _, l := range body {
		if l.Op != "" {
			names = withNew(names, l.Left, l.Right)
		} else {
			names = withNew(names, l.Atom.Terms...)
		}
	}
	return names
}

// withNew lays to names those of the variables among terms that are not there yet.
func withNew(names []string, terms ...api.Term) []string {
	for _, t := range terms {
		if t.Kind == signs.Variable && !slices.Contains(names, t.Text) {
			names = append(names, t.Text)
		}
	}
	return names
}

// answers tells the rows of values with which a body holds in a model.
func answers(m []api.Atom, body []api.Literal, names []string) (l [][]api.Term) {
	var found []api.Atom
	for v := range hold.Of(m).Ways(hold.Ready(body), hold.Values{}) {
		found = append(found, api.Atom{Terms: row(v, names...)})
	}
	// A row stands as the terms of an atom without a Name: then it is Union that lays rows in order, each once.
	for _, a := range rows.Union(found, nil) {
		l = append(l, a.Terms)
	}
	return l
}

// row tells the values of variables.
func row(v hold.Values, names ...string) (values []api.Term) {
	for _, name := range names {
		values = append(values, v[name])
	}
	return values
}
