package query

import (
	"math/rand"
	"slices"
	"strings"
	"testing"

	"lore/api"
	"lore/check"
	"lore/model"
	"lore/rows"
	"lore/text"
)

// What J1 says, taken word by word: all choices of values there are, each looked at with the whole body.
func reference(m []api.Atom, body []api.Literal) (names []string, answers [][]api.Term) {
	names = standing(body)
	choose(valuesIn(m), len(names), nil, func(row []api.Term) {
		v := map[string]api.Term{}
		for i, n := range names {
			v[n] = row[i]
		}
		if holds(m, body, v) {
			answers = append(answers, slices.Clone(row))
		}
	})
	return names, answers
}

// standing tells the variables of a body by its text: they are the words that begin with a capital letter.
func standing(body []api.Literal) (names []string) {
	for _, l := range body {
		for _, t := range slices.Concat(l.Atom.Terms, []api.Term{l.Left, l.Right}) {
			if t.Kind == 0 && t.Text != "" && !slices.Contains(names, t.Text) {
				names = append(names, t.Text)
			}
		}
	}
	return names
}

// valuesIn tells all terms that stand in a model, in order: a variable has one of them, as it stands in an atom that is not denied.
func valuesIn(m []api.Atom) (values []api.Term) {
	var l []api.Atom
	for _, a := range m {
		for _, t := range a.Terms {
			l = append(l, atom("", t))
		}
	}
	for _, a := range rows.Union(l, nil) {
		values = append(values, a.Terms[0])
	}
	return values
}

// choose goes through all rows of so many values, in order.
func choose(values []api.Term, n int, row []api.Term, with func([]api.Term)) {
	if n == 0 {
		with(row)
		return
	}
	for _, x := range values {
		choose(values, n-1, append(row, x), with)
	}
}

func holds(m []api.Atom, body []api.Literal, v map[string]api.Term) bool {
	valued := func(terms ...api.Term) api.Atom {
		a := api.Atom{}
		for _, t := range terms {
			if t.Kind == 0 {
				t = v[t.Text]
			}
			a.Terms = append(a.Terms, t)
		}
		return a
	}
	for _, l := range body {
		if l.Op == "" {
			a := valued(l.Atom.Terms...)
			a.Name = l.Atom.Name
			if rows.Has(m, a) == l.Not {
				return false
			}
			continue
		}
		order := text.Order(valued(l.Left), valued(l.Right))
		if !map[string]bool{"=": order == 0, "!=": order != 0, "<": order < 0, "<=": order <= 0, ">": order > 0, ">=": order >= 0}[l.Op] {
			return false
		}
	}
	return true
}

// Of these literals queries are made; most of what is drawn has no meaning and is passed by.
var (
	clauses = []string{"p(X) :- e(X,Y), !n(X).", "r(X,Y) :- e(X,Y).", "r(X,Z) :- r(X,Y), r(Y,Z).", "n(X) :- e(X,X).", "z :- n(X), X>2.", "y :- !z.", "p(a)."}
	atoms   = []string{"p(X)", "p(Y)", "p(2)", "p(a)", "r(X,Y)", "r(Y,X)", "r(Z,Y)", "r(X,X)", "e(X,Y)", "e(Y,Z)", "e(X,2)", "e(a,Z)", "n(X)", "n(Y)", "z", "y", "other"}
	tests   = []string{"X<Y", "Y<=Z", "X!=Y", "Y=Z", "X>=2", "Y>a", "1<2", "!p(X)", "!p(Y)", "!r(X,Y)", "!r(Y,Z)", "!e(X,X)", "!n(X)", "!n(Z)", "!z", "!y", "!other"}
	given   = []string{"e(1,2)", "e(2,3)", "e(3,1)", "e(3,3)", "e(2,a)", "e(a,1)", `e("a",2)`, "n(1)", "n(3)", `p("a")`, "p(2)", "r(1,1)", "z", "y", "other", "another(7)"}
)

func pick(r *rand.Rand, l []string) string { return l[r.Intn(len(l))] }

// draw lays clauses and queries together, as long as they have a meaning.
func draw(r *rand.Rand) string {
	s := ""
	for range 40 {
		next := pick(r, clauses)
		if r.Intn(2) == 0 {
			var body []string
			for range r.Intn(4) {
				body = append(body, pick(r, atoms))
			}
			for range r.Intn(3) {
				body = append(body, pick(r, tests))
			}
			r.Shuffle(len(body), func(i, j int) { body[i], body[j] = body[j], body[i] })
			next = "?- " + strings.Join(body, ", ") + "."
		}
		if _, e, _ := check.Check(s + next); e == api.OK {
			s += next + " "
		}
	}
	return s
}

func TestAgainstReference(t *testing.T) {
	answered, several := 0, 0
	for seed := range int64(300) {
		r := rand.New(rand.NewSource(seed))
		s, f := draw(r), facts(t, "")
		for range r.Intn(2 * len(given)) {
			f = append(f, facts(t, pick(r, given)+".")...)
		}
		m, _, _ := model.Model(s, f)
		p, _, _ := text.Parse(s)
		for n, body := range p.Queries {
			names, l, e, place := Ask(s, f, n)
			wantNames, want := reference(m, body)
			if !slices.Equal(names, wantNames) || shown(l) != shown(want) || e != api.OK || place != 0 {
				t.Fatalf("J1: query %d of %s over %v: %v, %s, %d, %d, want %v, %s", n, s, f, names, shown(l), e, place, wantNames, shown(want))
			}
			// What follows is asked likewise, if it is given.
			if _, again, _, _ := Ask(s, m, n); shown(again) != shown(want) {
				t.Fatalf("F3, J1: query %d of %s over %v: %s, want %s", n, s, m, shown(again), shown(want))
			}
			answered += min(len(l), 1)
			several += min(len(l)/4, 1)
		}
	}
	if answered < 1000 || several < 300 {
		t.Errorf("only %d queries are answered, %d of them by several rows", answered, several)
	}
}
