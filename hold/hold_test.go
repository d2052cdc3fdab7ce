package hold

import (
	"maps"
	"reflect"
	"strings"
	"testing"

	"lore/api"
	"lore/text"
)

// parsed is a program that the test knows to be right.
func parsed(t *testing.T, s string) api.Program {
	t.Helper()
	p, e, place := text.Parse(s)
	if e != api.OK {
		t.Fatalf("Parse(%q) = %d, %d", s, e, place)
	}
	return p
}

func stored(t *testing.T, s string) Store {
	t.Helper()
	store := Store{}
	for _, c := range parsed(t, s).Clauses {
		store.Put(c.Head)
	}
	return store
}

func one() api.Term { return api.Term{Kind: 1, Num: 1} }

func TestWaysMayBeLeft(t *testing.T) {
	store := stored(t, "e(1,1). e(1,2). e(2,3). q(1). q(2).")
	body := Ready(parsed(t, "?- e(X,Y), q(Y), q(Z), !q(3), X<=Y.").Queries[0])
	for leave := range 6 {
		v := Values{"X": one()}
		seen := 0
		for w := range store.Ways(body, v) {
			if len(w) != 3 || w["X"] != one() {
				t.Errorf("E2: %v", w)
			}
			if seen == leave {
				break
			}
			seen++
		}
		if want := min(leave, 4); seen != want {
			t.Errorf("E2: %d ways ahead of the one at which it is left, want %d", seen, want)
		}
		if !maps.Equal(v, Values{"X": one()}) {
			t.Errorf("what is left behind way %d is %v", leave, v)
		}
	}
}

func TestWaysWithinWays(t *testing.T) {
	store := stored(t, "q(1). q(2). q(3).")
	first, rest := parsed(t, "?- q(X).").Queries[0], parsed(t, "?- q(Y), q(Z).").Queries[0]
	var seen []int
	for v := range store.Ways(first, Values{}) {
		for range store.Ways(rest, v) {
			seen = append(seen, v["X"].Num)
			break
		}
	}
	if !reflect.DeepEqual(seen, []int{1, 2, 3}) {
		t.Errorf("E2: %v", seen)
	}
}

func TestReadyAndEnough(t *testing.T) {
	for _, c := range []struct {
		body, want string
		enough     map[string]int
	}{
		{"q(X)", "q(X)", map[string]int{"p": 0, "p(1)": 0, "p(X)": 1}},
		{"X<Y, !r(X), q(X), 1<2, q(Y), !z", "1<2 !z q(X) !r(X) q(Y) X<Y", map[string]int{"p": 0, "p(X)": 3, "p(Y,X)": 5, "p(Y)": 5}},
		{"e(X,Y), X!=Y, e(Y,Z), Z=1, e(U,V)", "e(X,Y) X!=Y e(Y,Z) Z=1 e(U,V)", map[string]int{"p(a)": 0, "p(Y)": 1, "p(X,Z)": 3, "p(V)": 5}},
	} {
		body := Ready(parsed(t, "?- "+c.body+".").Queries[0])
		plain := strings.Join(strings.Split(c.want, " "), ", ")
		if want := parsed(t, "?- "+plain+".").Queries[0]; !reflect.DeepEqual(body, want) {
			t.Errorf("Ready(%s) = %v, want %v", c.body, body, want)
		}
		for head, want := range c.enough {
			if n := Enough(body, parsed(t, head+".").Clauses[0].Head); n != want {
				t.Errorf("Enough(%s, %s) = %d, want %d", c.want, head, n, want)
			}
		}
	}
}

func TestMeet(t *testing.T) {
	for _, c := range []struct {
		atom, fact string
		given      []string
		ok         bool
	}{
		{"e(X,Y)", "e(1,2)", []string{"Y"}, true},
		{"e(Y,X)", "e(2,1)", []string{"Y"}, true},
		{"e(Y,X)", "e(1,2)", nil, false},
		{"e(Y,Y)", "e(1,2)", nil, false},
		{"e(Y,Y)", "e(2,2)", []string{"Y"}, true},
		{"e(Y,1)", "e(2,a)", nil, false},
		{"e", "e", nil, true},
		{"e(Y)", "e(1,2)", nil, false},
		{"e(Y,Z)", "e(1)", nil, false},
	} {
		v := Values{"X": one()}
		a, fact := parsed(t, c.atom+".").Clauses[0].Head, parsed(t, c.fact+".").Clauses[0].Head
		given, ok := v.Meet(a, fact)
		if !reflect.DeepEqual(given, c.given) || ok != c.ok || len(v) != 1+len(c.given) {
			t.Errorf("Meet(%s, %s) = %v, %t, and %v", c.atom, c.fact, given, ok, v)
		}
		if ok && text.Order(v.Made(a), fact) != 0 {
			t.Errorf("%s is made of %s, not %s", text.Show(v.Made(a)), c.atom, c.fact)
		}
	}
}
