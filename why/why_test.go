package why

import (
	"math"
	"reflect"
	"slices"
	"strings"
	"testing"

	"lore/api"
	"lore/model"
	"lore/rows"
	"lore/text"
)

func number(n int) api.Term  { return api.Term{Kind: 1, Num: n} }
func name(s string) api.Term { return api.Term{Kind: 2, Text: s} }

func atom(name string, terms ...api.Term) api.Atom { return api.Atom{Name: name, Terms: terms} }

// facts are the heads of a program's clauses.
func facts(t *testing.T, s string) (l []api.Atom) {
	t.Helper()
	p, e, place := text.Parse(s)
	if e != api.OK {
		t.Fatalf("Parse(%q) = %d, %d", s, e, place)
	}
	for _, c := range p.Clauses {
		l = append(l, c.Head)
	}
	return l
}

func fact(t *testing.T, s string) api.Atom {
	t.Helper()
	return facts(t, s+".")[0]
}

// reason is written as its Fact alone.
func reason(t *testing.T, s string, clause int, kids ...int) api.Reason {
	t.Helper()
	return api.Reason{Fact: fact(t, s), Clause: clause, Kids: kids}
}

const roads = "r(X,Y) :- e(X,Y). ?- r(1,X). r(X,Z) :- e(X,Y), r(Y,Z). p(X) :- r(X,3), !r(3,X). ?- p(X). z. y :- !x, 1<2. m(X) :- n(X), n(Y), X<Y, !e(X,Y). t(X) :- e(X,X), e(X,1)."

func TestRightLists(t *testing.T) {
	f := facts(t, "e(1,2). e(2,3). n(1). n(2). n(4). y. t(5). other(a).")
	of := func(l ...api.Reason) []api.Reason { return l }
	e12, e23 := reason(t, "e(1,2)", -1), reason(t, "e(2,3)", -1)
	for i, l := range [][]api.Reason{
		nil,
		{},
		of(e12), of(e23, e12),
		of(reason(t, "other(a)", -1), reason(t, "y", -1)),
		of(reason(t, "z", 3)),
		of(reason(t, "y", 4)),
		of(e12, reason(t, "r(1,2)", 0, 0)),
		of(e12, e23, reason(t, "r(2,3)", 0, 1), reason(t, "r(1,3)", 1, 0, 2), reason(t, "p(1)", 2, 3), reason(t, "z", 3)),
		of(reason(t, "n(4)", -1), reason(t, "n(1)", -1), reason(t, "m(1)", 5, 1, 0)),
		of(api.Reason{Fact: fact(t, "e(1,2)"), Clause: -1, Kids: []int{}}),
		of(api.Reason{Fact: fact(t, "z"), Clause: 3, Kids: []int{}}),
		of(api.Reason{Fact: atom("e", api.Term{Kind: 1, Num: 1, Text: "X"}, number(2)), Clause: -1}, api.Reason{Fact: atom("r", number(1), api.Term{Kind: 1, Num: 2, Text: "2"}), Kids: []int{0}}),
	} {
		if !Right(roads, f, l) {
			t.Errorf("H1: the right list %d, %v", i, l)
		}
	}
}

func TestWrongLists(t *testing.T) {
	f := facts(t, "e(1,2). e(2,3). n(1). n(2). n(4). y. t(5). other(a).")
	of := func(l ...api.Reason) []api.Reason { return l }
	e12, e23, r23 := reason(t, "e(1,2)", -1), reason(t, "e(2,3)", -1), reason(t, "r(2,3)", 0, 1)
	n1, n2, n4 := reason(t, "n(1)", -1), reason(t, "n(2)", -1), reason(t, "n(4)", -1)
	for why, lists := range map[string][][]api.Reason{
		"two Facts that are the same": {
			of(e12, e12), of(e12, e23, r23, e12), of(e12, e23, r23, r23),
			of(reason(t, "y", -1), reason(t, "y", 4)),
			of(e12, api.Reason{Fact: atom("e", api.Term{Kind: 1, Num: 1, Text: "X"}, number(2)), Clause: -1}),
		},
		"a Clause -1 for an atom that is no fact": {
			of(reason(t, "r(2,3)", -1)), of(reason(t, "z", -1)), of(reason(t, "e(1,3)", -1)), of(reason(t, "e(1)", -1)), of(reason(t, "other", -1)), of(reason(t, `other("a")`, -1)),
		},
		"a Clause -1 with Kids": {
			of(reason(t, "e(1,2)", -1, 0)), of(e12, reason(t, "e(2,3)", -1, 0)), of(reason(t, "e(1,2)", -1, -1)),
		},
		"a Clause that there is not": {
			of(reason(t, "e(1,2)", -2)), of(reason(t, "t(5)", 7)), of(reason(t, "y", math.MinInt)), of(reason(t, "y", math.MaxInt)), of(reason(t, "z", 8)),
		},
		"the number of a query, if they were counted, or of another clause": {
			of(e12, reason(t, "r(1,2)", 1, 0)), of(reason(t, "z", 5)), of(reason(t, "z", 4)), of(reason(t, "y", 3)), of(reason(t, "y", 6)),
		},
		"a Kid that stands behind it, or that there is not": {
			of(reason(t, "r(1,2)", 0, 1), e12), of(reason(t, "r(1,2)", 0, 0)), of(e12, reason(t, "r(1,2)", 0, 1)), of(e12, reason(t, "r(1,2)", 0, 2)),
			of(e12, reason(t, "r(1,2)", 0, -1)), of(e12, reason(t, "r(1,2)", 0, math.MinInt)), of(e12, reason(t, "r(1,2)", 0, math.MaxInt)),
			of(e12, e23, reason(t, "r(1,3)", 1, 0, 3), r23),
		},
		"too few Kids": {
			of(e12, reason(t, "r(1,2)", 0)), of(e12, e23, r23, reason(t, "r(1,3)", 1, 0)), of(e12, e23, r23, reason(t, "r(1,3)", 1, 2)), of(n1, n4, reason(t, "m(1)", 5, 0)),
		},
		"too many Kids": {
			of(e12, reason(t, "r(1,2)", 0, 0, 0)), of(e12, reason(t, "z", 3, 0)), of(e12, e23, r23, reason(t, "r(1,3)", 1, 0, 2, 2)), of(e12, reason(t, "y", 4, 0)),
			of(n1, n4, reason(t, "m(1)", 5, 0, 1, 1)),
		},
		"Kids in another order": {
			of(e12, e23, r23, reason(t, "r(1,3)", 1, 2, 0)), of(n1, n4, reason(t, "m(1)", 5, 1, 0)),
		},
		"a Kid that is another atom": {
			of(e12, e23, reason(t, "r(2,3)", 0, 0)), of(e12, e23, reason(t, "r(1,3)", 1, 0, 1)), of(n1, reason(t, "r(1,2)", 0, 0)),
			of(e12, e23, reason(t, "r(1,2)", 0, 0), reason(t, "r(1,3)", 1, 0, 2)), of(reason(t, "other(a)", -1), reason(t, "m(a)", 5, 0, 0)),
		},
		"a Fact that is not the head": {
			of(e12, reason(t, "r(2,1)", 0, 0)), of(e12, reason(t, "r(1,1)", 0, 0)), of(e12, reason(t, "s(1,2)", 0, 0)), of(e12, reason(t, "r(1)", 0, 0)), of(reason(t, "z(1)", 3)),
			of(e12, reason(t, "r(1,b)", 0, 0)), of(n1, n4, reason(t, "m(4)", 5, 0, 1)),
		},
		"a variable with two values": {
			of(e12, e23, reason(t, "t(1)", 6, 0, 1)), of(e12, reason(t, "t(1)", 6, 0, 0)), of(e12, reason(t, "t(2)", 6, 0, 0)),
		},
		"a comparison that is not true": {
			of(n1, n4, reason(t, "m(4)", 5, 1, 0)), of(n1, reason(t, "m(1)", 5, 0, 0)),
		},
		"an atom with `!` that is in the model": {
			of(n1, n2, reason(t, "m(1)", 5, 0, 1)),
		},
		"a Fact that is no fact": {
			of(api.Reason{Clause: -1}), of(api.Reason{}), of(e12, api.Reason{Fact: atom("r", api.Term{Text: "X"}, number(2)), Kids: []int{0}}),
			of(api.Reason{Fact: atom("e(1,2)"), Clause: -1}),
			of(e12, api.Reason{Fact: atom("r(1,2)"), Kids: []int{0}}), of(api.Reason{Fact: atom("e", number(1), api.Term{Kind: 2, Text: "2"}), Clause: -1}),
			of(api.Reason{Fact: atom("other", slices.Repeat([]api.Term{name("a")}, 9)...), Clause: -1}),
		},
		"a wrong reason ahead of right ones": {
			of(reason(t, "e(1,3)", -1), reason(t, "z", 3)), of(reason(t, "e(3,2)", -1), reason(t, "r(3,2)", 0, 0)),
		},
	} {
		for i, l := range lists {
			if Right(roads, f, l) {
				t.Errorf("H1: %s: %d, %v", why, i, l)
			}
		}
	}
}

// What is denied is held against the model, not against the list or the facts.
func TestDeniedInTheModel(t *testing.T) {
	const s = "p(X) :- n(X), !q(X). q(X) :- n(X), X>1. w :- !p(1)."
	f := facts(t, "n(1). n(2).")
	for i, want := range []bool{true, false} {
		l := []api.Reason{{Fact: f[i], Clause: -1}, {Fact: atom("p", f[i].Terms...), Clause: 0, Kids: []int{0}}}
		if Right(s, f, l) != want {
			t.Errorf("H1: %v, want %t", l, want)
		}
	}
	if Right(s, f, []api.Reason{reason(t, "w", 2)}) {
		t.Error("H1: p(1) is in the model")
	}
	if !Right(s, facts(t, "n(2)."), []api.Reason{reason(t, "w", 2)}) {
		t.Error("H1: p(1) is not in the model")
	}
}

func TestNoListIsRightWithAnError(t *testing.T) {
	z := []api.Reason{reason(t, "z", -1)}
	for _, c := range []struct {
		s string
		f []api.Atom
	}{
		{"z", []api.Atom{atom("z")}},
		{"p :- !p.", []api.Atom{atom("z")}},
		{"p(X).", []api.Atom{atom("z")}},
		{"p(1). p.", []api.Atom{atom("z")}},
		{strings.Repeat(" ", 4001), []api.Atom{atom("z")}},
		{"", []api.Atom{atom("z"), atom("Z")}},
		{"p.", []api.Atom{atom("z"), atom("p", number(1))}},
	} {
		for _, l := range [][]api.Reason{nil, {}, z} {
			if Right(c.s, c.f, l) {
				t.Errorf("H1: %v is right for %q and %v", l, c.s, c.f)
			}
		}
	}
	if !Right("", []api.Atom{atom("z")}, z) || !Right("", nil, nil) || Right("", nil, z) {
		t.Error("H1: without a clause")
	}
}

func TestErrorsOfWhy(t *testing.T) {
	good, bad, none := atom("e", number(1), number(2)), atom("E"), atom("e", number(9), number(9))
	f := []api.Atom{good}
	for _, c := range []struct {
		s    string
		f    []api.Atom
		goal api.Atom
		want api.Errno
		at   int
	}{
		{"p", f, bad, api.ErrForm, 1},
		{"p :- !q. q :- p.", f, none, api.ErrRing, 5},
		{"p(X) :- q(Y).", f, bad, api.ErrSafe, 2},
		{"e(1).", f, bad, api.ErrArity, 0},
		{roads, []api.Atom{good, atom("n")}, bad, api.ErrArity, 1},
		{roads, []api.Atom{good, good, bad}, none, api.ErrFact, 2},
		{roads, f, bad, api.ErrFact, 0},
		{roads, f, api.Atom{}, api.ErrFact, 0},
		{roads, f, atom("e(1,2)"), api.ErrFact, 0},
		{roads, f, atom("e", number(1), api.Term{Text: "X"}), api.ErrFact, 0},
		{roads, f, atom("r", number(1), api.Term{Kind: 4, Text: "2"}), api.ErrFact, 0},
		{roads, f, atom("z", slices.Repeat([]api.Term{number(1)}, 9)...), api.ErrFact, 0},
		{roads, f, none, api.ErrNone, 0},
		{roads, f, atom("e"), api.ErrNone, 0},
		{roads, f, atom("r", number(2), number(1)), api.ErrNone, 0},
		{roads, f, atom("r", number(1), name("b")), api.ErrNone, 0},
		{roads, f, atom("unknown"), api.ErrNone, 0},
		{roads, f, atom("z", number(1)), api.ErrNone, 0},
		{"", nil, atom("p"), api.ErrNone, 0},
		{"p :- q. q :- p.", nil, atom("p"), api.ErrNone, 0},
	} {
		if _, e, at := model.Model(c.s, c.f); e != api.OK && (e != c.want || at != c.at) {
			t.Errorf("F2: Model(%q, %v) = %d, %d", c.s, c.f, e, at)
		}
		if l, e, at := Why(c.s, c.f, c.goal); l != nil || e != c.want || at != c.at {
			t.Errorf("H3: Why(%q, %v, %v) = %v, %d, %d, want %d, %d", c.s, c.f, c.goal, l, e, at, c.want, c.at)
		}
	}
}

func TestWhyTellsWhatIsNeeded(t *testing.T) {
	f := facts(t, "e(1,2). e(2,3). e(3,4). n(1). n(4). q(1).")
	for _, c := range []struct {
		goal string
		want []api.Reason
	}{
		{"e(2,3)", []api.Reason{reason(t, "e(2,3)", -1)}},
		{"z", []api.Reason{reason(t, "z", 3)}},
		{"y", []api.Reason{reason(t, "y", 4)}},
		{"r(3,4)", []api.Reason{reason(t, "e(3,4)", -1), reason(t, "r(3,4)", 0, 0)}},
		{"m(1)", []api.Reason{reason(t, "n(1)", -1), reason(t, "n(4)", -1), reason(t, "m(1)", 5, 0, 1)}},
	} {
		if l, e, place := Why(roads, f, fact(t, c.goal)); !reflect.DeepEqual(l, c.want) || e != api.OK || place != 0 {
			t.Errorf("H3: %s: %v, %d, %d, want %v", c.goal, l, e, place, c.want)
		}
	}
	l, e, _ := Why(roads, f, fact(t, "r(1,4)"))
	if e != api.OK || len(l) != 6 || !Right(roads, f, l) || text.Show(l[5].Fact) != "r(1,4)" {
		t.Errorf("H3: %v, %d", l, e)
	}
}

func TestOnlyWhatTheKindTells(t *testing.T) {
	f := []api.Atom{atom("q", api.Term{Kind: 1, Num: 1, Text: "junk"}), atom("q", api.Term{Kind: 1, Num: 1})}
	for _, goal := range []api.Atom{atom("p", api.Term{Kind: 1, Num: 1, Text: "other"}), atom("q", api.Term{Kind: 1, Num: 1, Text: "x"})} {
		l, e, _ := Why("p(X) :- q(X).", f, goal)
		if e != api.OK || len(l) == 0 || text.Order(l[len(l)-1].Fact, goal) != 0 || !Right("p(X) :- q(X).", f, l) {
			t.Errorf("B1, H3: %v, %d", l, e)
		}
	}
}

func TestNothingIsSharedOrChanged(t *testing.T) {
	const s = "r(X,Y) :- e(X,Y). r(X,Z) :- r(X,Y), r(Y,Z)."
	f, goal := facts(t, "e(3,4). e(2,3). e(1,2). e(1,2)."), fact(t, "r(1,4)")
	a, _, _ := Why(s, f, goal)
	b, _, _ := Why(s, f, goal)
	if !reflect.DeepEqual(f, facts(t, "e(3,4). e(2,3). e(1,2). e(1,2).")) || !reflect.DeepEqual(goal, fact(t, "r(1,4)")) {
		t.Errorf("G4: %v, %v", f, goal)
	}
	kept := slices.Clone(a)
	for i := range kept {
		kept[i].Kids = slices.Clone(a[i].Kids)
		kept[i].Fact.Terms = slices.Clone(a[i].Fact.Terms)
	}
	if !Right(s, f, a) || !reflect.DeepEqual(a, kept) || !reflect.DeepEqual(a, b) {
		t.Errorf("G3, G4: %v, %v", a, b)
	}
	for i := range f {
		f[i].Terms[0] = name("gone")
	}
	goal.Terms[0] = name("gone")
	for i := range a {
		if !reflect.DeepEqual(a[i], kept[i]) {
			t.Errorf("G4: %v, want %v", a[i], kept[i])
		}
		a[i].Fact.Terms[0] = name("x")
		_ = append(a[i].Fact.Terms, name("y"))
		for k := range a[i].Kids {
			a[i].Kids[k] = 99
		}
		_ = append(a[i].Kids, 99)
	}
	if !reflect.DeepEqual(b, kept) {
		t.Errorf("G4: %v, want %v", b, kept)
	}
}

func TestLongReasons(t *testing.T) {
	var f []api.Atom
	for i := range 3000 {
		f = append(f, atom("e", number(i), number(i+1)))
	}
	const s = "p(0). p(Y) :- p(X), e(X,Y)."
	l, e, _ := Why(s, f, atom("p", number(3000)))
	if e != api.OK || len(l) != 6001 || !Right(s, f, l) {
		t.Errorf("H3: %d reasons, %d", len(l), e)
	}
	last := l[len(l)-1]
	l[len(l)-1] = api.Reason{Fact: atom("p", number(2999)), Clause: last.Clause, Kids: last.Kids}
	if Right(s, f, l) || rows.Has(f, l[len(l)-1].Fact) {
		t.Error("H1: the last one is wrong")
	}
}
