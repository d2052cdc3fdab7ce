package grow

import (
	"slices"

	"lore/api"
	"lore/check"
	"lore/hold"
	"lore/text"
)

// join is a clause with the store that it makes atoms of: of the whole, or beginning with an atom of its body that is one of those that came last.
type join struct {
	hold.Store
	hold.Rule
	number int
	begins api.Atom
}

// level is the clauses of one level.
type level struct {
	clauses []join
	again   []join            // those of them that are looked at as a whole each time
	turns   map[string][]join // the others, by the Name of the atom that they begin with
}

// maxTurns bounds how often a clause is looked at for an atom that came: one with more atoms that may come on its own level is looked at as a whole.
const maxTurns = 8

// levels tells the clauses of a program by their levels, from the lowest one on.
func levels(s string, store hold.Store) []level {
	p, _, _ := text.Parse(s)
	on, highest := headLevels(s, p)
	l := make([]level, highest+1)
	for i, c := range p.Clauses {
		l[on[c.Head.Name]].add(join{Store: store, Rule: hold.RuleOf(c), number: i}, c, on)
	}
	return l
}

// headLevels tells on which level the Name of each head is, and the highest of these.
func headLevels(s string, p api.Program) (on map[string]int, highest int) {
	told, _, _ := check.Check(s)
	all := map[string]int{}
	for _, l := range told {
		all[l.Name] = l.Level
	}
	on = map[string]int{}
	for _, c := range p.Clauses {
		on[c.Head.Name] = all[c.Head.Name]
		highest = max(highest, all[c.Head.Name])
	}
	return on, highest
}

// add lays a clause to the level, with a turn for each atom of its body that may come on the level itself.
func (l *level) add(j join, c api.Clause, on map[string]int) {
	l.clauses = append(l.clauses, j)
	turns := growing(c, on)
	if len(turns) > maxTurns {
		l.again = append(l.again, j)
		return
	}
	if l.turns == nil {
		l.turns = map[string][]join{}
	}
	for _, i := range turns {
		begins := c.Body[i].Atom
		rest := api.Clause{Head: c.Head, Body: slices.Delete(slices.Clone(c.Body), i, i+1)}
		j.begins, j.Rule = begins, hold.RuleOf(rest, begins.Terms...)
		l.turns[begins.Name] = append(l.turns[begins.Name], j)
	}
}

// growing tells the numbers of those literals of a clause's body that are atoms which clauses of its own level make.
func growing(c api.Clause, on map[string]int) (numbers []int) {
	for i, l := range c.Body {
		if at, made := on[l.Atom.Name]; hold.Gives(l) && made && at == on[c.Head.Name] {
			numbers = append(numbers, i)
		}
	}
	return numbers
}
