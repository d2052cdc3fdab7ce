package why

import (
	"slices"
	"strings"
	"testing"

	"lore/api"
	"lore/check"
	"lore/model"
	"lore/rows"
	"lore/text"
)

// What H1 says, taken word by word: all values for a clause's variables are tried.
func reference(s string, f []api.Atom, l []api.Reason) bool {
	m, e, _ := model.Model(s, f)
	if e != api.OK {
		return false
	}
	p, _, _ := text.Parse(s)
	for i, r := range l {
		for _, other := range l[:i] {
			if text.Order(r.Fact, other.Fact) == 0 {
				return false
			}
		}
		given := r.Clause == -1 && len(r.Kids) == 0 && rows.Has(f, r.Fact)
		if !given && (r.Clause < 0 || r.Clause >= len(p.Clauses) || !madeOfKids(p.Clauses[r.Clause], r, l[:i], m)) {
			return false
		}
	}
	return true
}

func madeOfKids(c api.Clause, r api.Reason, ahead []api.Reason, m []api.Atom) bool {
	values := map[string]api.Term{}
	var try func(variables []string) bool
	try = func(variables []string) bool {
		if len(variables) == 0 {
			return text.Order(put(c.Head, values), r.Fact) == 0 && bodyOfKids(c.Body, r.Kids, ahead, m, values)
		}
		return slices.ContainsFunc([]api.Term{number(1), number(2), number(3), name("a")}, func(v api.Term) bool {
			values[variables[0]] = v
			return try(variables[1:])
		})
	}
	return try([]string{"X", "Y", "Z"})
}

func bodyOfKids(body []api.Literal, kids []int, ahead []api.Reason, m []api.Atom, values map[string]api.Term) bool {
	atoms := 0
	for _, l := range body {
		if l.Op == "" && !l.Not {
			if atoms >= len(kids) || kids[atoms] < 0 || kids[atoms] >= len(ahead) || text.Order(ahead[kids[atoms]].Fact, put(l.Atom, values)) != 0 {
				return false
			}
			atoms++
		}
		if l.Not && rows.Has(m, put(l.Atom, values)) {
			return false
		}
		if l.Op != "" && !compared(l.Op, text.Order(put(atom("t", l.Left), values), put(atom("t", l.Right), values))) {
			return false
		}
	}
	return atoms == len(kids)
}

func compared(op string, order int) bool {
	return map[string]bool{"=": order == 0, "!=": order != 0, "<": order < 0, "<=": order <= 0, ">": order > 0, ">=": order >= 0}[op]
}

func put(a api.Atom, values map[string]api.Term) api.Atom {
	b := api.Atom{Name: a.Name}
	for _, t := range a.Terms {
		if t.Kind == 0 {
			t = values[t.Text]
		}
		b.Terms = append(b.Terms, t)
	}
	return b
}

// Of these clauses all threes are programs; those that have no meaning are passed by.
var clauses = []string{
	"r(X,Y) :- e(X,Y).", "r(X,Z) :- r(X,Y), r(Y,Z).", "r(Y,X) :- r(X,Y), X!=Y.", "r(X,X) :- n(X), !e(X,X).",
	"n(X) :- r(X,Y).", "n(Y) :- e(X,Y), n(X).", "n(2).", "q(X) :- n(X), !r(X,X).", "q(Y) :- r(X,Y), q(X), n(Y).", "q(a) :- !n(3).",
	"z :- q(X), n(X), X<a.", "z :- !q(1), 1<2.", "p(X) :- e(X,Y), e(Z,X), !q(Z), z.", "p(X) :- q(X), p(Y), Y<=X.", "p(1). ?- p(X).", "n(X) :- p(X), q(X), r(X,Y), z.",
}

func programs(t *testing.T, take func(s string, f []api.Atom)) {
	some := facts(t, "e(1,2). e(2,3). e(3,a). n(1).")
	more := facts(t, "e(1,1). e(1,2). e(2,1). n(3). q(2). r(3,1). p(2).")
	for i := range clauses {
		for j := range i {
			for k := range j {
				s := strings.Join([]string{clauses[j], clauses[i], clauses[k]}, " ")
				if _, e, _ := check.Check(s); e == api.OK {
					take(s, some)
					take(s, more)
				}
			}
		}
	}
}

func TestAllOfTheModelHasReasons(t *testing.T) {
	longest := 0
	programs(t, func(s string, f []api.Atom) {
		m, _, _ := model.Model(s, f)
		for _, goal := range m {
			l, e, place := Why(s, f, goal)
			if e != api.OK || place != 0 || len(l) == 0 || text.Order(l[len(l)-1].Fact, goal) != 0 {
				t.Fatalf("H3: Why(%q, %v, %s) = %v, %d, %d", s, f, text.Show(goal), l, e, place)
			}
			if !reference(s, f, l) || !Right(s, f, l) {
				t.Fatalf("H3, H4: Why(%q, %v, %s) = %v", s, f, text.Show(goal), l)
			}
			longest = max(longest, len(l))
		}
		for _, goal := range rows.Less(facts(t, "r(3,3). n(a). q(1). q(9). z. p(3). e(2,2). other."), m) {
			if l, e, place := Why(s, f, goal); l != nil || e != api.ErrNone || place != 0 {
				t.Fatalf("H3: Why(%q, %v, %s) = %v, %d, %d", s, f, text.Show(goal), l, e, place)
			}
		}
	})
	if longest < 9 {
		t.Errorf("no list has more than %d reasons", longest)
	}
}

// changed hands on what comes of a list if one thing in it is another.
func changed(l []api.Reason, atoms []api.Atom, take func([]api.Reason)) {
	for i, r := range l {
		with := func(r api.Reason) {
			n := slices.Clone(l)
			n[i] = r
			take(n)
		}
		for _, a := range atoms {
			with(api.Reason{Fact: a, Clause: r.Clause, Kids: r.Kids})
		}
		for clause := -2; clause < 4; clause++ {
			with(api.Reason{Fact: r.Fact, Clause: clause, Kids: r.Kids})
		}
		for k := range len(r.Kids) + 1 {
			for kid := -1; kid <= len(l); kid++ {
				with(api.Reason{Fact: r.Fact, Clause: r.Clause, Kids: slices.Insert(slices.Clone(r.Kids), k, kid)})
				if k < len(r.Kids) {
					kids := slices.Clone(r.Kids)
					kids[k] = kid
					with(api.Reason{Fact: r.Fact, Clause: r.Clause, Kids: kids})
				}
			}
			if k < len(r.Kids) {
				with(api.Reason{Fact: r.Fact, Clause: r.Clause, Kids: slices.Delete(slices.Clone(r.Kids), k, k+1)})
			}
		}
		take(slices.Delete(slices.Clone(l), i, i+1))
		take(append(slices.Clone(l), r))
		take(append([]api.Reason{r}, slices.Delete(slices.Clone(l), i, i+1)...))
	}
}

func TestRightAgainstReference(t *testing.T) {
	const s = "r(X,Y) :- e(X,Y). r(X,Z) :- r(X,Y), r(Y,Z), X!=Z. q(X) :- r(X,Y), n(Y), !r(Y,X), X<3. z :- !q(a), q(X), e(X,Y), n(Y)."
	f := facts(t, "e(1,2). e(2,3). e(3,a). e(2,1). n(3). n(a). r(3,1).")
	m, _, _ := model.Model(s, f)
	right, wrong := 0, 0
	for _, goal := range m {
		l, e, _ := Why(s, f, goal)
		if e != api.OK {
			t.Fatalf("H3: %s: %d", text.Show(goal), e)
		}
		changed(l, append(facts(t, "r(a,1). e(1,1). q(3). other."), m...), func(l []api.Reason) {
			want := reference(s, f, l)
			if Right(s, f, l) != want {
				t.Fatalf("H1: %v, want %t", l, want)
			}
			if want {
				right++
			} else {
				wrong++
			}
			for _, r := range l {
				if want && !rows.Has(m, r.Fact) {
					t.Fatalf("H4: %v", l)
				}
			}
		})
	}
	if right < 50 || wrong < 500 {
		t.Errorf("%d lists are right, %d wrong", right, wrong)
	}
}
