package why

import (
	"lore/api"
	"lore/grow"
	"lore/hold"
	"lore/text"
)

// list is reasons in the order in which they are found, each behind those that it needs.
type list struct {
	reasons []api.Reason
	numbers map[string]int // of the Facts, by their plain forms
}

// reasons tells a right list whose last Fact is a goal that is in the model.
func reasons(s string, facts []api.Atom, goal api.Atom) []api.Reason {
	l := list{numbers: map[string]int{}}
	store := hold.Of(facts)
	for _, a := range store.List() {
		l.add(api.Reason{Fact: a, Clause: -1})
	}
	p, _, _ := text.Parse(s)
	shown := text.Show(goal)
	for number, v := range grow.All(s, store) {
		if _, found := l.numbers[shown]; found {
			break
		}
		c := p.Clauses[number]
		l.add(api.Reason{Fact: v.Made(c.Head), Clause: number, Kids: l.kids(c.Body, v)})
	}
	return l.upTo(l.numbers[shown])
}

func (l *list) add(r api.Reason) {
	l.numbers[text.Show(r.Fact)] = len(l.reasons)
	l.reasons = append(l.reasons, r)
}

// kids tells the numbers of what the atoms of a body are with values.
func (l *list) kids(body []api.Literal, v hold.Values) (numbers []int) {
	for _, b := range body {
		if hold.Gives(b) {
			numbers = append(numbers, l.numbers[text.Show(v.Made(b.Atom))])
		}
	}
	return numbers
}

// upTo tells the reason of that number behind all that it needs, and nothing else.
func (l *list) upTo(goal int) (out []api.Reason) {
	needed := make([]bool, goal+1)
	needed[goal] = true
	for i := goal; i >= 0; i-- {
		if needed[i] {
			for _, kid := range l.reasons[i].Kids {
				needed[kid] = true
			}
		}
	}
	moved := make([]int, goal+1)
	for i, r := range l.reasons[:goal+1] {
		if !needed[i] {
			continue
		}
		for k, kid := range r.Kids {
			r.Kids[k] = moved[kid]
		}
		moved[i] = len(out)
		out = append(out, r)
	}
	return out
}
