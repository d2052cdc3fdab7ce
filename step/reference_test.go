package step

import (
	"testing"

	"lore/api"
	"lore/check"
	"lore/rows"
	"lore/text"
)

// What E2 says, taken word by word: all values for all variables are tried. It is held against Holds for all heads and all bodies of at most three of these literals.
var (
	heads    = []string{"h", "h(X)", "h(Y,X)", "h(Z,1)"}
	literals = []string{
		"e(X,Y)", "e(Y,X)", "e(X,X)", "e(Y,Z)", "e(1,Y)", "q(X)", "q(Y)", "q(a)", "z",
		"!e(X,Y)", "!e(Y,1)", "!q(X)", "!q(Z)", "!z", "X<Y", "X=Y", "Z!=X", "X>=a", "X<=Z", "1>2",
	}
)

// choices hands all choices of values for variables to a function.
func choices(variables []string, values []api.Term, take func(map[string]api.Term)) {
	chosen := map[string]api.Term{}
	var choose func(i int)
	choose = func(i int) {
		if i == len(variables) {
			take(chosen)
			return
		}
		for _, v := range values {
			chosen[variables[i]] = v
			choose(i + 1)
		}
	}
	choose(0)
}

func put(t api.Term, chosen map[string]api.Term) api.Term {
	if t.Kind == 0 {
		return chosen[t.Text]
	}
	return t
}

func putAll(a api.Atom, chosen map[string]api.Term) api.Atom {
	b := api.Atom{Name: a.Name}
	for _, t := range a.Terms {
		b.Terms = append(b.Terms, put(t, chosen))
	}
	return b
}

func isSo(l api.Literal, facts []api.Atom, chosen map[string]api.Term) bool {
	if l.Op == "" {
		return rows.Has(facts, putAll(l.Atom, chosen)) != l.Not
	}
	order := text.Order(atom("t", put(l.Left, chosen)), atom("t", put(l.Right, chosen)))
	return map[string]bool{"=": order == 0, "!=": order != 0, "<": order < 0, "<=": order <= 0, ">": order > 0, ">=": order >= 0}[l.Op]
}

func madeOf(c api.Clause, facts []api.Atom, values []api.Term) (made []api.Atom) {
	choices([]string{"X", "Y", "Z"}, values, func(chosen map[string]api.Term) {
		for _, l := range c.Body {
			if !isSo(l, facts, chosen) {
				return
			}
		}
		made = append(made, putAll(c.Head, chosen))
	})
	return rows.Union(made, nil)
}

func bodies(take func(string)) {
	for _, a := range literals {
		take(a)
		for _, b := range literals {
			take(a + ", " + b)
			for _, c := range literals {
				take(a + ", " + b + ", " + c)
			}
		}
	}
}

func TestAgainstReference(t *testing.T) {
	f := facts(t, "e(1,2). e(2,1). e(2,2). e(a,2). q(1). q(a). other(3).")
	values := []api.Term{number(1), number(2), name("a"), number(3)}
	looked, full := 0, 0
	bodies(func(body string) {
		for _, head := range heads {
			s := head + " :- " + body + "."
			l, e, place := Holds(s, f, 0)
			if _, want, at := check.Check(s); e != want || place != at {
				t.Fatalf("E3: Holds(%q) = %d, %d, want %d, %d", s, e, place, want, at)
			}
			if e != api.OK {
				continue
			}
			p, _, _ := text.Parse(s)
			if want := madeOf(p.Clauses[0], f, values); shown(l) != shown(want) {
				t.Fatalf("E2: Holds(%q) = %s, want %s", s, shown(l), shown(want))
			}
			looked++
			if len(l) > 0 {
				full++
			}
		}
	})
	if looked < 1000 || full < 500 || full == looked {
		t.Errorf("too few clauses make something, or nothing: %d of %d", full, looked)
	}
}
