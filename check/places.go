package check

import (
	"strings"

	"lore/api"
	"lore/signs"
)

// The roles of a part.
const (
	head = iota
	plain
	denied
	compared
)

// sentence is a clause, its head first, or a query.
type sentence []part

// part is a head or a literal, with the places of what it is made of.
type part struct {
	role      int
	name      string // of an atom, like terms and place
	terms     int
	place     int
	not       int // of a denied atom: the place of its `!`
	variables []variable
}

type variable struct {
	name  string
	place int
}

// marks are places of what stands up to a dot, each kind from the left: they are used up from the front.
type marks struct {
	asks  bool
	words []int
	nots  []int
}

// sentences lays the parts of a program beside the places at which its text has them, in the order of the text.
func sentences(s string, p api.Program) []sentence {
	clauses, queries := p.Clauses, p.Queries
	var l []sentence
	for at := 0; len(clauses)+len(queries) > 0; {
		var m marks
		m, at = upToDot(s, at)
		if m.asks {
			l = append(l, m.body(queries[0]))
			queries = queries[1:]
			continue
		}
		first := m.atom(head, clauses[0].Head)
		l = append(l, append(sentence{first}, m.body(clauses[0].Body)...))
		clauses = clauses[1:]
	}
	return l
}

// upToDot tells the marks of what stands up to the next dot, and the place behind that. (Of a text that Parse reads: what stands where is known, so words and `!` are enough.)
func upToDot(s string, at int) (marks, int) {
	var m marks
reading:
	for at = signs.Skip(s, at); at < len(s); at = signs.Skip(s, at) {
		t, end, e := signs.Term(s, at, 0)
		switch {
		case e == api.OK:
			if isWord(t) {
				m.words = append(m.words, at)
			}
			at = end
		case s[at] == '.':
			at++
			break reading
		case strings.HasPrefix(s[at:], "!="):
			at += len("!=")
		case s[at] == '!':
			m.nots = append(m.nots, at)
			at++
		default:
			m.asks = m.asks || s[at] == '?'
			at++
		}
	}
	return m, at
}

func isWord(t api.Term) bool {
	return t.Kind == signs.Variable || t.Kind == signs.Name
}

func (m *marks) body(literals []api.Literal) sentence {
	var t sentence
	for _, l := range literals {
		t = append(t, m.literal(l))
	}
	return t
}

func (m *marks) literal(l api.Literal) part {
	switch {
	case l.Op != "":
		return part{role: compared, variables: m.variables([]api.Term{l.Left, l.Right})}
	case l.Not:
		p := m.atom(denied, l.Atom)
		p.not = next(&m.nots)
		return p
	}
	return m.atom(plain, l.Atom)
}

func (m *marks) atom(role int, a api.Atom) part {
	p := part{role: role, name: a.Name, terms: len(a.Terms), place: next(&m.words)}
	p.variables = m.variables(a.Terms)
	return p
}

// variables uses up the marks of names among the terms, too: they are words.
func (m *marks) variables(terms []api.Term) []variable {
	var l []variable
	for _, t := range terms {
		if !isWord(t) {
			continue
		}
		place := next(&m.words)
		if t.Kind == signs.Variable {
			l = append(l, variable{t.Text, place})
		}
	}
	return l
}

func next(places *[]int) int {
	first := (*places)[0]
	*places = (*places)[1:]
	return first
}
