package why

import (
	"lore/api"
	"lore/hold"
	"lore/rows"
	"lore/text"
)

// judge has what reasons are held against.
type judge struct {
	clauses []api.Clause
	given   hold.Store
	model   hold.Store
}

func newJudge(s string, facts []api.Atom, model []api.Atom) judge {
	p, _, _ := text.Parse(s)
	return judge{clauses: p.Clauses, given: hold.Of(facts), model: hold.Of(model)}
}

// allRight tells whether a list of reasons is right (H1).
func allRight(j judge, l []api.Reason) bool {
	ahead := hold.Store{}
	for i, r := range l {
		// What is given or made of that is a fact, so nothing else has a right reason.
		if !rows.Fact(r.Fact) || ahead.Has(r.Fact) || !j.right(r, l[:i]) {
			return false
		}
		ahead.Put(r.Fact)
	}
	return true
}

// right tells whether a reason is right behind others that are.
func (j judge) right(r api.Reason, ahead []api.Reason) bool {
	if r.Clause == -1 {
		return len(r.Kids) == 0 && j.given.Has(r.Fact)
	}
	if r.Clause < 0 || r.Clause >= len(j.clauses) {
		return false
	}
	c := j.clauses[r.Clause]
	v, ok := values(c.Body, r.Kids, ahead)
	return ok && text.Order(v.Made(c.Head), r.Fact) == 0 && j.passes(c.Body, v)
}

// values tells those with which the atoms of a body are the Facts of the Kids, one for each; and whether there are such.
func values(body []api.Literal, kids []int, ahead []api.Reason) (hold.Values, bool) {
	v := hold.Values{}
	for _, b := range body {
		if !hold.Gives(b) {
			continue
		}
		if len(kids) == 0 || kids[0] < 0 || kids[0] >= len(ahead) {
			return nil, false
		}
		fact := hold.Bare(ahead[kids[0]].Fact)
		kids = kids[1:]
		if _, ok := v.Meet(b.Atom, fact); !ok || b.Atom.Name != fact.Name {
			return nil, false
		}
	}
	return v, len(kids) == 0
}

// passes tells whether all comparisons are true, and no atom with `!` is in the model.
func (j judge) passes(body []api.Literal, v hold.Values) bool {
	for _, b := range body {
		if !hold.Gives(b) && !j.model.Passes(b, v) {
			return false
		}
	}
	return true
}
