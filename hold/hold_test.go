package hold

import (
	"maps"
	"reflect"
	"strings"
	"testing"

	"lore/api"
	"lore/text"
)

// parsed is a program that the test knows to be right.
func parsed(t *testing.T, s string) api.Program {
	t.Helper()
	p, e, place := text.Parse(s)
	if e != api.OK {
		t.Fatalf("Parse(%q) = %d, %d", s, e, place)
	}
	return p
}

func stored(t *testing.T, s string) Store {
	t.Helper()
	var l []api.Atom
	for _, c := range parsed(t, s).Clauses {
		l = append(l, c.Head)
	}
	return Of(l)
}

func one() api.Term { return api.Term{Kind: 1, Num: 1} }

func TestWaysMayBeLeft(t *testing.T) {
	store := stored(t, "e(1,1). e(1,2). e(2,3). q(1). q(2).")
	body := Ready(parsed(t, "?- e(X,Y), q(Y), q(Z), !q(3), X<=Y.").Queries[0])
	for leave := range 6 {
		v := Values{"X": one()}
		seen := 0
		for w := range store.Ways(body, v) {
			if len(w) != 3 || w["X"] != one() {
				t.Errorf("E2: %v", w)
			}
			if seen == leave {
				break
			}
			seen++
		}
		if want := min(leave, 4); seen != want {
			t.Errorf("E2: %d ways ahead of the one at which it is left, want %d", seen, want)
		}
		if !maps.Equal(v, Values{"X": one()}) {
			t.Errorf("what is left behind way %d is %v", leave, v)
		}
	}
}

func TestWaysWithinWays(t *testing.T) {
	store := stored(t, "q(1). q(2). q(3).")
	first, rest := parsed(t, "?- q(X).").Queries[0], parsed(t, "?- q(Y), q(Z).").Queries[0]
	var seen []int
	for v := range store.Ways(first, Values{}) {
		for range store.Ways(rest, v) {
			seen = append(seen, v["X"].Num)
			break
		}
	}
	if !reflect.DeepEqual(seen, []int{1, 2, 3}) {
		t.Errorf("E2: %v", seen)
	}
}

func TestReadyAndEnough(t *testing.T) {
	for _, c := range []struct {
		given, body, want string
		enough            map[string]int
	}{
		{"", "q(X)", "q(X)", map[string]int{"p": 0, "p(1)": 0, "p(X)": 1}},
		{"", "X<Y, !r(X), q(X), 1<2, q(Y), !z", "1<2 !z q(X) !r(X) q(Y) X<Y", map[string]int{"p": 0, "p(X)": 3, "p(Y,X)": 5, "p(Y)": 5}},
		{"", "e(X,Y), X!=Y, e(Y,Z), Z=1, e(U,V)", "e(X,Y) X!=Y e(Y,Z) Z=1 e(U,V)", map[string]int{"p(a)": 0, "p(Y)": 1, "p(X,Z)": 3, "p(V)": 5}},
		// that one next of which most is known, of several the first one
		{"", "q(X), q(Y), e(X,Y)", "q(X) e(X,Y) q(Y)", map[string]int{"p(Y)": 2}},
		{"", "e(X,Y), e(Y,Z), e(1,Z), z, q(a)", "z q(a) e(1,Z) e(Y,Z) e(X,Y)", map[string]int{"p": 0, "p(Z)": 3, "p(X)": 5}},
		{"", "q(U), n(X,Y,Z), n(1,Y,V), n(V,Y,W)", "n(1,Y,V) n(V,Y,W) n(X,Y,Z) q(U)", nil},
		{"", "q(V), e(1,X), n(X,X,Y), q(X), n(X,Y,Z)", "e(1,X) q(X) n(X,X,Y) n(X,Y,Z) q(V)", nil},
		// with values that are given
		{"e(Y,Z)", "e(X,Y), Z<Y, !q(X), e(U,Z), e(U,X)", "Z<Y e(X,Y) !q(X) e(U,Z) e(U,X)", map[string]int{"p(Y,Z)": 0, "p": 0, "p(X)": 2, "p(Z,U)": 4}},
		{"e(A,B)", "q(X), q(B), q(A), A!=B", "q(B) q(A) A!=B q(X)", map[string]int{"p(A)": 0, "p(A,X)": 4}},
		{"q(X)", "", "", map[string]int{"p(X)": 0, "p": 0}},
	} {
		var given []api.Term
		if c.given != "" {
			given = parsed(t, c.given+".").Clauses[0].Head.Terms
		}
		body := Ready(bodyOf(t, c.body), given...)
		if want := bodyOf(t, strings.Join(strings.Split(c.want, " "), ", ")); !reflect.DeepEqual(body, want) {
			t.Errorf("Ready(%s, %s) = %v, want %v", c.body, c.given, body, want)
		}
		for head, want := range c.enough {
			if n := enough(body, parsed(t, head+".").Clauses[0].Head, given...); n != want {
				t.Errorf("enough(%s, %s, %s) = %d, want %d", c.want, head, c.given, n, want)
			}
		}
	}
}

// bodyOf is literals, perhaps none.
func bodyOf(t *testing.T, s string) []api.Literal {
	t.Helper()
	if s == "" {
		return nil
	}
	return parsed(t, "?- "+s+".").Queries[0]
}

func TestReadyChangesNothing(t *testing.T) {
	body := bodyOf(t, "X<Y, q(X), e(1,Y), z")
	Ready(body)
	if want := bodyOf(t, "X<Y, q(X), e(1,Y), z"); !reflect.DeepEqual(body, want) {
		t.Errorf("the body is %v", body)
	}
}

func TestMakes(t *testing.T) {
	const facts = "e(1,2). e(1,3). e(2,3). q(2). q(3)."
	for _, c := range []struct{ clause, known, want string }{
		{"p(X) :- e(X,Y), q(Y).", "", "p(1) p(2)"},
		{"p(X) :- e(X,Y), q(Y).", "p(1).", "p(2)"},
		{"p(X) :- e(X,Y), q(Y).", "p(1). p(2). p(3).", ""},
		{"e(X,Y) :- q(X), q(Y).", facts, "e(2,2) e(3,2) e(3,3)"},
		{"p :- e(X,Y), q(X).", "", "p"},
		{"p :- e(X,Y), q(X).", "p.", ""},
		{"p :- e(X,Y), q(X), Y>3.", "", ""},
	} {
		store, known := stored(t, facts), stored(t, c.known)
		r := RuleOf(parsed(t, c.clause).Clauses[0])
		var made []string
		for v := range store.Makes(r, Values{}, known) {
			a := v.Made(r.Head)
			made = append(made, text.Show(a))
			known.Put(a)
		}
		if got := strings.Join(made, " "); got != c.want {
			t.Errorf("E2: %s makes %s, want %s", c.clause, got, c.want)
		}
	}
}

// What comes is told with the values of all variables, and may be left.
func TestMakesTellsAllValues(t *testing.T) {
	store := stored(t, "e(1,2). e(2,3). q(2). q(3).")
	r := RuleOf(parsed(t, "p(X) :- e(X,Y), q(Y), q(Z), Z>Y.").Clauses[0])
	start := Values{"W": one()}
	for v := range store.Makes(r, start, Store{}) {
		if len(v) != 4 || v["X"] != one() || v["Y"].Num != 2 || v["Z"].Num != 3 || v["W"] != one() {
			t.Errorf("E2: %v", v)
		}
		break
	}
	if !maps.Equal(start, Values{"W": one()}) {
		t.Errorf("what is left behind is %v", start)
	}
}

func TestStore(t *testing.T) {
	store := stored(t, "q(2). e(1,2). q(1). e(1,1). q(2). z. q(1,2).")
	var l []string
	for _, a := range store.List() {
		l = append(l, text.Show(a))
	}
	if got := strings.Join(l, " "); got != "e(1,1) e(1,2) q(1) q(2) q(1,2) z" {
		t.Errorf("B1: %s", got)
	}
	if l := (Store{}).List(); l != nil {
		t.Errorf("B4: %v", l)
	}
	junk := api.Atom{Name: "q", Terms: []api.Term{{Kind: 1, Num: 7, Text: "junk"}}}
	store.Put(junk)
	for a, want := range map[string]bool{"q(1)": true, "q(3)": false, "q(7)": true, "z": true, "y": false, "q": false, "q(1,2)": true, "q(2,1)": false, "q(a)": false, `q("1")`: false} {
		head := parsed(t, a+".").Clauses[0].Head
		if store.Has(head) != want {
			t.Errorf("Has(%s) = %t", a, !want)
		}
		ways := 0
		for range store.Ways(bodyOf(t, a), Values{}) {
			ways++
		}
		if (ways == 1) != want || ways > 1 {
			t.Errorf("%s holds in %d ways", a, ways)
		}
		if store.Passes(api.Literal{Not: true, Atom: head}, Values{}) == want {
			t.Errorf("Passes(!%s) = %t", a, want)
		}
	}
	store.List()[0].Terms[0] = api.Term{Kind: 2, Text: "gone"}
	if a := store.List()[0]; text.Show(a) != "e(1,1)" {
		t.Errorf("G4: %s", text.Show(a))
	}
	if junk.Terms[0].Text != "junk" || !reflect.DeepEqual(Bare(junk).Terms[0], api.Term{Kind: 1, Num: 7}) {
		t.Errorf("%v, %v", junk, Bare(junk))
	}
}

func TestMeet(t *testing.T) {
	for _, c := range []struct {
		atom, fact string
		given      []string
		ok         bool
	}{
		{"e(X,Y)", "e(1,2)", []string{"Y"}, true},
		{"e(Y,X)", "e(2,1)", []string{"Y"}, true},
		{"e(Y,X)", "e(1,2)", nil, false},
		{"e(Y,Y)", "e(1,2)", nil, false},
		{"e(Y,Y)", "e(2,2)", []string{"Y"}, true},
		{"e(Y,1)", "e(2,a)", nil, false},
		{"e", "e", nil, true},
		{"e(Y)", "e(1,2)", nil, false},
		{"e(Y,Z)", "e(1)", nil, false},
	} {
		v := Values{"X": one()}
		a, fact := parsed(t, c.atom+".").Clauses[0].Head, parsed(t, c.fact+".").Clauses[0].Head
		given, ok := v.Meet(a, fact)
		if !reflect.DeepEqual(given, c.given) || ok != c.ok || len(v) != 1+len(c.given) {
			t.Errorf("Meet(%s, %s) = %v, %t, and %v", c.atom, c.fact, given, ok, v)
		}
		if ok && text.Order(v.Made(a), fact) != 0 {
			t.Errorf("%s is made of %s, not %s", text.Show(v.Made(a)), c.atom, c.fact)
		}
	}
}
