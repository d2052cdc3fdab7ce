// Package rows works with lists of facts: see doc/02-rows.md.
package rows

import (
	"errors"
	"slices"
	"strings"

	"lore/api"
	"lore/signs"
	"lore/text"
)

const (
	maxRows   = 100000
	maxNumber = 999999999999999999
)

// Fact tells whether an atom is a fact (B1).
func Fact(a api.Atom) bool {
	if !signs.IsName(a.Name) || len(a.Terms) > signs.MaxTerms {
		return false
	}
	for _, t := range a.Terms {
		if !isValue(t) {
			return false
		}
	}
	return true
}

func isValue(t api.Term) bool {
	switch t.Kind {
	case signs.Number:
		return -maxNumber <= t.Num && t.Num <= maxNumber
	case signs.Name:
		return signs.IsName(t.Text)
	}
	return t.Kind == signs.String
}

// Parse reads facts (B2).
func Parse(s string) ([]api.Atom, api.Errno, int) {
	if len(s) > maxRows {
		return nil, api.ErrLong, 0
	}
	l, err := readLines(s)
	var w wrong
	if errors.As(err, &w) {
		return nil, w.errno, w.place
	}
	return inOrder(l), api.OK, 0
}

// Print writes facts (B3).
func Print(l []api.Atom) (string, api.Errno, int) {
	for i, a := range l {
		if !Fact(a) {
			return "", api.ErrFact, i
		}
	}
	var b strings.Builder
	for _, a := range inOrder(l) {
		b.WriteString(a.Name)
		for _, t := range a.Terms {
			b.WriteString("\t" + signs.Plain(t))
		}
		b.WriteString("\n")
	}
	return b.String(), api.OK, 0
}

// Union is all of two lists (B4).
func Union(a []api.Atom, b []api.Atom) []api.Atom {
	return inOrder(slices.Concat(a, b))
}

// Less is all of one list but what is in another one (B4).
func Less(a []api.Atom, b []api.Atom) []api.Atom {
	gone := inOrder(b)
	var left []api.Atom
	for _, x := range inOrder(a) {
		if _, found := slices.BinarySearchFunc(gone, x, text.Order); !found {
			left = append(left, x)
		}
	}
	return left
}

// Has tells whether an atom is in a list (B4).
func Has(l []api.Atom, a api.Atom) bool {
	return slices.ContainsFunc(l, func(x api.Atom) bool { return text.Order(x, a) == 0 })
}

// inOrder answers new memory all through, terms too, so that what it is handed is neither changed nor shared.
func inOrder(l []api.Atom) []api.Atom {
	sorted := slices.Clone(l)
	slices.SortStableFunc(sorted, text.Order)
	var out []api.Atom
	for i, a := range sorted {
		if i == 0 || text.Order(sorted[i-1], a) != 0 {
			out = append(out, api.Atom{Name: a.Name, Terms: append([]api.Term(nil), a.Terms...)})
		}
	}
	return out
}
