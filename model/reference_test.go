package model

import (
	"math/rand"
	"strings"
	"testing"

	"lore/api"
	"lore/check"
	"lore/rows"
	"lore/step"
	"lore/text"
)

// What F1 says, taken word by word: level by level, again and again, all that the clauses of that level make.
func reference(s string, facts []api.Atom) []api.Atom {
	told, _, _ := check.Check(s)
	levels := map[string]int{}
	for _, l := range told {
		levels[l.Name] = l.Level
	}
	p, _, _ := text.Parse(s)
	m := rows.Union(facts, nil)
	for level := range len(told) {
		for before := -1; before < len(m); {
			before = len(m)
			for i, c := range p.Clauses {
				if levels[c.Head.Name] == level {
					made, _, _ := step.Holds(s, m, i)
					m = rows.Union(m, made)
				}
			}
		}
	}
	return m
}

// Of these literals programs are made; most of what is drawn has no meaning and is passed by.
var (
	heads = []string{"p(X)", "p(Y)", "q(X)", "q(1)", "r(X,Y)", "r(Y,X)", "r(X,X)", "s(X,Z)", "s(Y,1)", "z", "y"}
	atoms = []string{"p(X)", "p(Y)", "p(2)", "q(X)", "q(Z)", "r(X,Y)", "r(Y,Z)", "r(Y,X)", "r(X,1)", "s(X,Y)", "s(Z,Z)", "e(X,Y)", "e(Y,Z)", "e(X,2)", "n(X)", "n(Y)", "z", "y"}
	tests = []string{"X<Y", "X!=Y", "Y=Z", "X>=2", "1<2", "!p(X)", "!q(X)", "!q(Y)", "!r(X,Y)", "!r(Y,X)", "!s(X,1)", "!e(X,X)", "!n(X)", "!z", "!y"}
	given = []string{"e(1,2)", "e(2,3)", "e(3,1)", "e(3,3)", "n(1)", "n(2)", "n(3)", "p(1)", "q(2)", "r(1,3)", "r(2,1)", "s(1,1)", "s(3,2)", "z", "y", "other(1)", "other"}
)

func pick(r *rand.Rand, l []string) string { return l[r.Intn(len(l))] }

func drawClause(r *rand.Rand) string {
	var body []string
	for range (r.Intn(4) + r.Intn(4)) / 2 {
		body = append(body, pick(r, atoms))
	}
	for range max(0, r.Intn(4)-1) {
		body = append(body, pick(r, tests))
	}
	r.Shuffle(len(body), func(i, j int) { body[i], body[j] = body[j], body[i] })
	if len(body) == 0 {
		return pick(r, heads) + "."
	}
	return pick(r, heads) + " :- " + strings.Join(body, ", ") + "."
}

// drawProgram lays clauses together, as long as they have a meaning.
func drawProgram(r *rand.Rand) string {
	s := ""
	for range 100 {
		next := s + drawClause(r) + " "
		if _, e, _ := check.Check(next); e == api.OK {
			s = next
		}
		if strings.Count(s, ".") == 7 {
			break
		}
	}
	return s
}

// drawFacts takes few or most of what may be given, some twice.
func drawFacts(t *testing.T, r *rand.Rand) []api.Atom {
	s := ""
	for range r.Intn(3 * len(given)) {
		s += pick(r, given) + ". "
	}
	return facts(t, s)
}

func TestAgainstReference(t *testing.T) {
	grown := 0
	for seed := range int64(2000) {
		r := rand.New(rand.NewSource(seed))
		s, f := drawProgram(r), drawFacts(t, r)
		m, e, place := Model(s, f)
		if want := reference(s, f); e != api.OK || place != 0 || shown(m) != shown(want) {
			t.Fatalf("F1: %s over %s: %s, %d, %d, want %s", s, shown(f), shown(m), e, place, shown(want))
		}
		if made, _, _ := step.Step(s, m); len(rows.Less(made, m)) > 0 {
			t.Fatalf("F3: of %s, the model of %s over %s, comes more", shown(m), s, shown(f))
		}
		if len(rows.Less(f, m)) > 0 {
			t.Fatalf("F3: %s, the model of %s, has not all of %s", shown(m), s, shown(f))
		}
		if len(m) > 3+len(rows.Union(f, nil)) {
			grown++
		}
	}
	if grown < 500 {
		t.Errorf("only %d programs make much", grown)
	}
}

func TestWhatIsLeftOutDoesNotMatter(t *testing.T) {
	left := 0
	for seed := range int64(500) {
		r := rand.New(rand.NewSource(seed))
		s, f := drawProgram(r), drawFacts(t, r)
		m, _, _ := Model(s, f)
		for _, a := range f {
			fewer := rows.Less(f, []api.Atom{a})
			n, e, _ := Model(s, fewer)
			if made := rows.Has(n, a); e != api.OK || made != (shown(n) == shown(m)) {
				t.Fatalf("F3: %s over %s: %s, but over %s: %s, %d", s, shown(f), shown(m), shown(fewer), shown(n), e)
			} else if made {
				left++
			}
		}
		all := append(append([]api.Atom{}, m...), f...)
		r.Shuffle(len(all), func(i, j int) { all[i], all[j] = all[j], all[i] })
		if n, _, _ := Model(s, all); shown(n) != shown(m) {
			t.Fatalf("F3: %s over %s: %s, but over %s: %s", s, shown(f), shown(m), shown(all), shown(n))
		}
	}
	if left < 200 {
		t.Errorf("only %d facts are made all the same", left)
	}
}
