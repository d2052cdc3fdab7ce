package grow

import (
	"slices"
	"strconv"
	"strings"
	"testing"

	"lore/api"
	"lore/hold"
	"lore/rows"
	"lore/text"
)

func parsed(t *testing.T, s string) api.Program {
	t.Helper()
	p, e, place := text.Parse(s)
	if e != api.OK {
		t.Fatalf("Parse(%q) = %d, %d", s, e, place)
	}
	return p
}

func stored(t *testing.T, s string) hold.Store {
	t.Helper()
	store := hold.Store{}
	for _, c := range parsed(t, s).Clauses {
		store.Put(c.Head)
	}
	return store
}

// own has so many atoms in the body of its last clause that may come on its own level.
func own(n int) string {
	return "r(X) :- e(X,Y), X<2. r(Y) :- e(X,Y)" + strings.Repeat(", r(X)", n) + ", X<Y. ?- r(X). q(X) :- e(X,Y), !r(X)."
}

// Each that comes is new, made with the values that are told by the clause that is told, of what was there ahead of it.
func TestHowItComes(t *testing.T) {
	for _, s := range []string{
		"r(X,Y) :- e(X,Y). r(X,Z) :- r(X,Y), r(Y,Z). q(X) :- r(X,X). p(X) :- e(X,Y), !q(X).",
		"p. q :- p. ?- q. r(X) :- e(X,Y), q, p, e(Y,Z), e(A,B), r(B).",
		"r(1) :- !q(1). q(X) :- e(X,X), X>1. p(X) :- r(X), r(Y), e(A,Y).",
		own(maxTurns - 1), own(maxTurns), own(maxTurns + 1), own(maxTurns + 5),
	} {
		p := parsed(t, s)
		store := stored(t, "e(1,2). e(2,3). e(3,3). e(4,5). e(3,4). e(4,9). other.")
		there := store.List()
		for number, v := range All(s, store) {
			c := p.Clauses[number]
			a := v.Made(c.Head)
			if !rows.Fact(a) || rows.Has(there, a) || !store.Has(a) {
				t.Errorf("F1: %s: %s comes of %v", s, text.Show(a), there)
			}
			for _, l := range c.Body {
				if is := rows.Has(there, v.Made(l.Atom)); l.Op == "" && is == l.Not || l.Op != "" && !v.Compare(l) {
					t.Errorf("F1: %s: %s comes of %v with %v", s, text.Show(a), there, v)
				}
			}
			there = append(there, a)
		}
		if l := store.List(); len(l) != len(there) || len(rows.Less(l, there)) > 0 {
			t.Errorf("F1: %s: the store has %v, but %v came", s, l, there)
		}
	}
}

func TestMayBeLeft(t *testing.T) {
	for _, s := range []string{
		"r(X,Y) :- e(X,Y). r(X,Z) :- r(X,Y), r(Y,Z). p :- !q.",
		"p. q :- p. r(X) :- e(X,Y), q.",
		own(maxTurns), own(maxTurns + 1),
	} {
		var all []string
		for number, v := range All(s, stored(t, "e(1,2). e(2,3). e(3,4).")) {
			all = append(all, text.Show(v.Made(parsed(t, s).Clauses[number].Head)))
		}
		for leave := range all {
			store := stored(t, "e(1,2). e(2,3). e(3,4).")
			var some []string
			for number, v := range All(s, store) {
				some = append(some, text.Show(v.Made(parsed(t, s).Clauses[number].Head)))
				if len(some) > leave {
					break
				}
			}
			if !slices.Equal(some, all[:leave+1]) || len(store.List()) != 3+leave+1 {
				t.Errorf("%s: %v came, of %v, and %v is there", s, some, all, store.List())
			}
		}
	}
}

// What came last is enough to look at: a long chain takes as many looks as it has links.
func TestWhatCameLast(t *testing.T) {
	store := hold.Store{}
	for i := range 20000 {
		for _, name := range []string{"e", "f"} {
			store.Put(api.Atom{Name: name, Terms: []api.Term{{Kind: 1, Num: i}, {Kind: 1, Num: i + 1}}})
		}
	}
	came := 0
	for range All("r(0). r(Y) :- f(X,Z), e(X,Y), r(X).", store) {
		came++
	}
	if came != 20001 {
		t.Errorf("F1: %d came", came)
	}
}

func TestLevels(t *testing.T) {
	s := "a :- !b, c. b :- d, b, a1. a1 :- b. ?- z, !a. a2 :- !a, b, a, a2."
	for i := range maxTurns + 2 {
		s += " w" + strconv.Itoa(i) + " :- v" + strings.Repeat(", w"+strconv.Itoa(i), i) + "."
	}
	l := levels(s, hold.Store{})
	var clauses, again, turns []int
	for _, x := range l {
		clauses, again = append(clauses, len(x.clauses)), append(again, len(x.again))
		n := 0
		for _, j := range x.turns {
			n += len(j)
		}
		turns = append(turns, n)
	}
	// On the level 0 b has two turns and a1 one, and the w have up to maxTurns; a has none, and a2 has one.
	if want := 3 + maxTurns*(maxTurns+1)/2; !slices.Equal(clauses, []int{2 + maxTurns + 2, 1, 1}) || !slices.Equal(again, []int{1, 0, 0}) || !slices.Equal(turns, []int{want, 0, 1}) {
		t.Errorf("%v clauses, %v again, %v turns", clauses, again, turns)
	}
}
