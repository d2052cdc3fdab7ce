// Package text reads rules and questions: see doc/01-text.md.
package text

import (
	"cmp"
	"strings"

	"lore/api"
	"lore/signs"
)

// Parse tells a program (A1, A2).
func Parse(s string) (p api.Program, e api.Errno, place int) {
	defer func() {
		if end, ok := recover().(ending); ok {
			p, e, place = api.Program{}, end.errno, end.place
		}
	}()
	read(s, func(c api.Clause) {
		p.Clauses = append(p.Clauses, c)
	}, func(q []api.Literal) {
		p.Queries = append(p.Queries, q)
	})
	return p, api.OK, 0
}

// Print writes a program in its plain form (A3).
func Print(s string) (plain string, e api.Errno, place int) {
	defer func() {
		if end, ok := recover().(ending); ok {
			plain, e, place = "", end.errno, end.place
		}
	}()
	var b strings.Builder
	read(s, func(c api.Clause) {
		b.WriteString(showClause(c))
	}, func(q []api.Literal) {
		b.WriteString("?- " + showBody(q) + ".\n")
	})
	return b.String(), api.OK, 0
}

// Order tells which of two atoms is ahead (A4).
func Order(a api.Atom, b api.Atom) int {
	if c := cmp.Compare(a.Name, b.Name); c != 0 {
		return c
	}
	if c := cmp.Compare(len(a.Terms), len(b.Terms)); c != 0 {
		return c
	}
	for i, t := range a.Terms {
		if c := orderTerms(t, b.Terms[i]); c != 0 {
			return c
		}
	}
	return 0
}

func orderTerms(a api.Term, b api.Term) int {
	if a.Kind != b.Kind {
		return cmp.Compare(a.Kind, b.Kind)
	}
	if a.Kind == signs.Number {
		return cmp.Compare(a.Num, b.Num)
	}
	return cmp.Compare(a.Text, b.Text)
}

// Show writes an atom (A3).
func Show(a api.Atom) string {
	if len(a.Terms) == 0 {
		return a.Name
	}
	var terms []string
	for _, t := range a.Terms {
		terms = append(terms, signs.Plain(t))
	}
	return a.Name + "(" + strings.Join(terms, ",") + ")"
}

func showClause(c api.Clause) string {
	if len(c.Body) == 0 {
		return Show(c.Head) + ".\n"
	}
	return Show(c.Head) + " :- " + showBody(c.Body) + ".\n"
}

func showBody(body []api.Literal) string {
	var literals []string
	for _, l := range body {
		literals = append(literals, showLiteral(l))
	}
	return strings.Join(literals, ", ")
}

func showLiteral(l api.Literal) string {
	switch {
	case l.Op != "":
		return signs.Plain(l.Left) + l.Op + signs.Plain(l.Right)
	case l.Not:
		return "!" + Show(l.Atom)
	}
	return Show(l.Atom)
}
