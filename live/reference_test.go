package live

import (
	"math/rand"
	"testing"

	"lore/api"
	"lore/model"
	"lore/rows"
	"lore/step"
)

// reference does what K2 and K3 say, word by word: all that can be asked is worked out anew with each change.
type reference struct {
	program           string
	given             []api.Atom
	model, came, gone []api.Atom
}

func referenceOf(s string) *reference {
	m, _, _ := model.Model(s, nil)
	return &reference{program: s, model: m, came: m}
}

func (f *reference) give(given []api.Atom) api.Errno {
	now, _, _ := model.Model(f.program, given)
	f.came, f.gone = rows.Less(now, f.model), rows.Less(f.model, now)
	f.given, f.model = given, now
	return api.OK
}

func (f *reference) add(a api.Atom) api.Errno {
	if _, e, _ := step.Step(f.program, []api.Atom{a}); e != api.OK {
		return e
	}
	if rows.Has(f.given, a) {
		return api.ErrTwice
	}
	return f.give(rows.Union(f.given, []api.Atom{a}))
}

func (f *reference) remove(a api.Atom) api.Errno {
	if !rows.Has(f.given, a) {
		return api.ErrNone
	}
	return f.give(rows.Less(f.given, []api.Atom{a}))
}

var (
	programs = []string{
		"",
		"p(X) :- q(X), !r(X). r(X) :- e(X,X). ?- s(X).",
		"r(X) :- q(X). r(Y) :- r(X), e(X,Y). p(X) :- q(X), !s(X). s(X) :- e(X,Y), !r(Y).",
		"q(1). p(1). e(X,Y) :- q(X), q(Y), X<Y. z :- !y. y :- p(2), r(1). s(X) :- q(X), !z.",
		"p(X) :- s(X). s(X) :- p(X). q(X) :- e(X,Y), !p(X). r(X) :- e(X,Y), !q(Y).",
	}
	changing = []string{"q(1)", "q(2)", "q(3)", "e(1,2)", "e(2,3)", "e(3,1)", "e(2,2)", "r(1)", "r(2)", "p(1)", "p(2)", "s(1)", "s(3)", "z", "y", "other", "q", "e(1)", "q(X)", "z(1)"}
)

// What is asked between changes, and how often, does not matter.
func TestAgainstReference(t *testing.T) {
	errors := map[api.Errno]int{}
	came, gone := 0, 0
	for seed := range int64(500) {
		r := rand.New(rand.NewSource(seed))
		s := programs[r.Intn(len(programs))]
		l, want := made(t, s), referenceOf(s)
		asks := 1 + r.Intn(6)
		for range 60 {
			a := fact(t, changing[r.Intn(len(changing))])
			e, f := api.OK, api.OK
			if r.Intn(2) == 0 {
				e, f = l.Add(a), want.add(a)
			} else {
				e, f = l.Remove(a), want.remove(a)
			}
			if e != f {
				t.Fatalf("K2: %s over %s: %s: %d, want %d", s, shown(want.given), shown([]api.Atom{a}), e, f)
			}
			errors[e]++
			if r.Intn(asks) == 0 && shown(l.Given()) != shown(want.given) {
				t.Fatalf("K3: %s: given %s, want %s", s, shown(l.Given()), shown(want.given))
			}
			if r.Intn(asks) == 0 && shown(l.Model()) != shown(want.model) {
				t.Fatalf("K3: %s over %s: %s, want %s", s, shown(want.given), shown(l.Model()), shown(want.model))
			}
			if n := shown(want.came) + " / " + shown(want.gone); r.Intn(asks) == 0 && news(l) != n {
				t.Fatalf("K3: %s over %s: news %s, want %s", s, shown(want.given), news(l), n)
			}
			came, gone = came+len(want.came), gone+len(want.gone)
		}
	}
	for _, e := range []api.Errno{api.OK, api.ErrFact, api.ErrArity, api.ErrTwice, api.ErrNone} {
		if errors[e] < 200 {
			t.Errorf("only %d changes are answered %d", errors[e], e)
		}
	}
	if came < 5000 || gone < 5000 {
		t.Errorf("only %d atoms came, %d went", came, gone)
	}
}
