package model

import (
	"math"
	"reflect"
	"slices"
	"strconv"
	"strings"
	"testing"

	"lore/api"
	"lore/rows"
	"lore/step"
	"lore/text"
)

func number(n int) api.Term  { return api.Term{Kind: 1, Num: n} }
func name(s string) api.Term { return api.Term{Kind: 2, Text: s} }

func atom(name string, terms ...api.Term) api.Atom { return api.Atom{Name: name, Terms: terms} }

// facts are the heads of a program's clauses.
func facts(t *testing.T, s string) (l []api.Atom) {
	t.Helper()
	p, e, place := text.Parse(s)
	if e != api.OK {
		t.Fatalf("Parse(%q) = %d, %d", s, e, place)
	}
	for _, c := range p.Clauses {
		l = append(l, c.Head)
	}
	return l
}

// shown writes atoms with a blank between.
func shown(l []api.Atom) string {
	var s []string
	for _, a := range l {
		s = append(s, text.Show(a))
	}
	return strings.Join(s, " ")
}

func TestModels(t *testing.T) {
	for _, c := range []struct{ s, f, want string }{
		// facts alone, and facts whose Names no clause has
		{"", "", ""},
		{"", "p(1). p(0). p(0). a.", "a p(0) p(1)"},
		{"p(X) :- q(X). ?- s(X).", "q(1). s(2). other. other(1,2). other(b).", "other other(b) other(1,2) p(1) q(1) s(2)"},
		{"?- p(X), q.", "q. p(1).", "p(1) q"},
		// clauses without a body
		{"p. p. q(2). q(1).", "", "p q(1) q(2)"},
		{"p(1,a,\"\\n\").", "p(1,a,b).", `p(1,a,b) p(1,a,"\n")`},
		// again and again
		{"e(1,2). e(2,3). r(X,Y) :- e(X,Y). r(X,Z) :- e(X,Y), r(Y,Z).", "", "e(1,2) e(2,3) r(1,2) r(1,3) r(2,3)"},
		{"r(X,Z) :- r(X,Y), r(Y,Z).", "r(1,2). r(2,3). r(3,4). r(4,5).", "r(1,2) r(1,3) r(1,4) r(1,5) r(2,3) r(2,4) r(2,5) r(3,4) r(3,5) r(4,5)"},
		{"d :- c. c :- b. b :- a. a.", "", "a b c d"},
		{"d :- c, b, a. c :- b, a. b :- a.", "a.", "a b c d"},
		{"even(Y) :- odd(X), s(X,Y). odd(Y) :- even(X), s(X,Y). even(0).", "s(0,1). s(1,2). s(2,3).", "even(0) even(2) odd(1) odd(3) s(0,1) s(1,2) s(2,3)"},
		{"same(X,Y) :- p(X,A), same(A,B), p(Y,B).", "p(1,0). p(2,0). p(3,1). p(4,2). p(5,9). same(0,0).", "p(1,0) p(2,0) p(3,1) p(4,2) p(5,9) same(0,0) same(1,1) same(1,2) same(2,1) same(2,2) same(3,3) same(3,4) same(4,3) same(4,4)"},
		// rings without `!`
		{"p :- q. q :- p.", "", ""},
		{"p :- q. q :- p.", "q.", "p q"},
		{"p :- p.", "", ""},
		{"p :- p.", "p.", "p"},
		{"p(X) :- q(X). q(X) :- r(X). r(X) :- p(X).", "q(1). r(2).", "p(1) p(2) q(1) q(2) r(1) r(2)"},
		{"p(Y,X) :- p(X,Y). p(X,X) :- p(X,Y).", "p(1,2).", "p(1,1) p(1,2) p(2,1) p(2,2)"},
		{"p(Y,Z,X) :- p(X,Y,Z).", "p(1,2,3).", "p(1,2,3) p(2,3,1) p(3,1,2)"},
		// what is made of nothing but what it makes does not come
		{"p :- q. q :- p. r :- !p.", "", "r"},
		{"p(X) :- p(X), n(X). s(X) :- n(X), !p(X).", "n(1). n(2). p(2).", "n(1) n(2) p(2) s(1)"},
		// levels, and Names that are denied on higher ones
		{"p(X) :- q(X), !s(X).", "q(a). q(b). s(a).", "p(b) q(a) q(b) s(a)"},
		{"p(X) :- q(X), !s(X). s(X) :- t(X).", "q(a). q(b). t(a).", "p(b) q(a) q(b) s(a) t(a)"},
		{"a :- !b. b :- !c. c :- !d. d :- !e.", "", "b d"},
		{"a :- !b. b :- !c. c :- !d. d :- !e.", "e.", "a c e"},
		{"a :- !b. b :- !c. c :- !d. d :- !e.", "e. b.", "b c e"},
		{"d :- !e. c :- !d. b :- !c. a :- !b.", "d. a.", "a b d"},
		{"win(X) :- m(X,Y), !lose(Y). lose(X) :- n(X), !has(X). has(X) :- m(X,Y).", "m(1,2). m(2,3). n(1). n(2). n(3).", "has(1) has(2) lose(3) m(1,2) m(2,3) n(1) n(2) n(3) win(1)"},
		{"r(Y) :- r(X), e(X,Y). u(X) :- n(X), !r(X). v(Y) :- u(X), e(X,Y). w(X) :- n(X), !v(X), !u(X).", "r(1). e(1,2). e(3,4). e(3,2). n(1). n(2). n(3). n(4).", "e(1,2) e(3,2) e(3,4) n(1) n(2) n(3) n(4) r(1) r(2) u(3) u(4) v(2) v(4) w(1)"},
		{"p(X) :- n(X), !q(X). q(X) :- n(X), X>1. p(X) :- p(Y), n(X), X=2, Y=1.", "n(1). n(2). n(3).", "n(1) n(2) n(3) p(1) p(2) q(2) q(3)"},
		{"high :- !low. low :- a, !b.", "a. b. low.", "a b low"},
		{"high(X) :- n(X), !low(X,X).", "n(1). n(2). low(1,2). low(2,2).", "high(1) low(1,2) low(2,2) n(1) n(2)"},
		// bodies that have no atom without `!`
		{"p :- !q.", "", "p"},
		{"p :- !q.", "q.", "q"},
		{"p :- !q.", "p. q.", "p q"},
		{"p :- !q. q :- r. r.", "", "q r"},
		{"p(1) :- !q(1), 1<a. p(2) :- !q(1), !q(2). p(3) :- 2<1. p(4) :- \"\"!=a.", "q(2).", "p(1) p(4) q(2)"},
		// facts that the clauses make, too
		{"p(X) :- q(X).", "p(1). p(2). q(1).", "p(1) p(2) q(1)"},
		{"p(1). q(X) :- p(X).", "q(1). p(1).", "p(1) q(1)"},
		{"p. q :- !p.", "q.", "p q"},
	} {
		if l, e, place := Model(c.s, facts(t, c.f)); shown(l) != c.want || e != api.OK || place != 0 {
			t.Errorf("F1, F2: %s over %s: %s, %d, %d, want %s", c.s, c.f, shown(l), e, place, c.want)
		}
	}
}

func TestErrorsOfStep(t *testing.T) {
	const fits = "p(X) :- q(X), !r(X,X). ?- s(1,2,3), z."
	for _, c := range []struct {
		s    string
		f    []api.Atom
		want api.Errno
		at   int
	}{
		{"p", nil, api.ErrForm, 1},
		{"p(1234567890123456789).", nil, api.ErrRange, 2},
		{"p(1,2,3,4,5,6,7,8,9).", nil, api.ErrMany, 18},
		{strings.Repeat(" ", 4001), nil, api.ErrLong, 0},
		{"p(1). q. p.", nil, api.ErrArity, 9},
		{"p(X) :- q(Y).", nil, api.ErrSafe, 2},
		{"p :- !q. q :- p.", nil, api.ErrRing, 5},
		{"p :- !p.", []api.Atom{atom("P")}, api.ErrRing, 5},
		{fits, []api.Atom{atom("q", number(1)), atom("P")}, api.ErrFact, 1},
		{fits, []api.Atom{{}}, api.ErrFact, 0},
		{fits, []api.Atom{atom("z"), atom("z"), atom("q", api.Term{Text: "X"}), atom("q")}, api.ErrFact, 2},
		{fits, []api.Atom{atom("q", number(math.MaxInt))}, api.ErrFact, 0},
		{fits, []api.Atom{atom("q", name("X"))}, api.ErrFact, 0},
		{fits, []api.Atom{atom("other", slices.Repeat([]api.Term{number(1)}, 9)...)}, api.ErrFact, 0},
		{"", []api.Atom{atom("p"), atom("")}, api.ErrFact, 1},
		{fits, []api.Atom{atom("q", number(1)), atom("q"), atom("P")}, api.ErrArity, 1},
		{fits, []api.Atom{atom("other"), atom("other", number(1)), atom("r", number(1))}, api.ErrArity, 2},
		{fits, []api.Atom{atom("s")}, api.ErrArity, 0},
		{fits, []api.Atom{atom("q", number(1)), atom("z", number(1))}, api.ErrArity, 1},
	} {
		if _, e, at := step.Step(c.s, c.f); e != c.want || at != c.at {
			t.Errorf("E3: Step(%q, %v) = %d, %d, want %d, %d", c.s, c.f, e, at, c.want, c.at)
		}
		if l, e, at := Model(c.s, c.f); l != nil || e != c.want || at != c.at {
			t.Errorf("F2: Model(%q, %v) = %v, %d, %d, want %d, %d", c.s, c.f, l, e, at, c.want, c.at)
		}
	}
}

func TestOnlyWhatTheKindTells(t *testing.T) {
	f := []api.Atom{
		{Name: "q", Terms: []api.Term{{Kind: 1, Num: 1, Text: "junk"}, {Kind: 2, Num: 9, Text: "a"}}},
		{Name: "q", Terms: []api.Term{{Kind: 1, Num: 1}, {Kind: 2, Num: 8, Text: "a"}}},
		{Name: "r", Terms: []api.Term{{Kind: 1, Num: 1, Text: "other"}}},
		{Name: "p", Terms: []api.Term{{Kind: 3, Num: 5, Text: "a"}, {Kind: 1, Num: 1, Text: "X"}}},
		{Name: "z", Terms: []api.Term{}},
	}
	l, e, _ := Model("p(Y,X) :- q(X,Y), r(X). t(Y) :- p(Y,X), z, r(X). u(Y) :- t(Y), !p(Y,1).", f)
	if want := "p(a,1) p(\"a\",1) q(1,a) r(1) t(a) t(\"a\") z"; shown(l) != want || e != api.OK {
		t.Errorf("B1, F2: %s, %d, want %s", shown(l), e, want)
	}
	if !reflect.DeepEqual(l[0], atom("p", name("a"), number(1))) {
		t.Errorf("A2: %v", l[0])
	}
}

func TestNothingIsSharedOrChanged(t *testing.T) {
	const s = "p(X,X) :- q(X). r(X) :- p(X,X). p(X,Y) :- p(X,X), p(Y,Y). t(X) :- q(X), !r(X)."
	const want = "p(1,1) p(1,2) p(2,1) p(2,2) q(1) q(2) r(1) r(2)"
	f := []api.Atom{atom("q", number(2)), atom("q", number(1)), atom("q", number(2))}
	a, _, _ := Model(s, f)
	b, _, _ := Model(s, f)
	if shown(f) != "q(2) q(1) q(2)" {
		t.Errorf("G4: the facts are %s", shown(f))
	}
	for i := range f {
		f[i].Terms[0] = name("gone")
	}
	if shown(a) != want {
		t.Errorf("G4: %s, want %s", shown(a), want)
	}
	for i := range a {
		a[i].Terms[0] = name("x")
		_ = append(a[i].Terms, name("y"))
		for _, other := range a[i+1:] {
			if other.Terms[0] == name("x") {
				t.Errorf("G4: %d shares memory with %s", i, text.Show(other))
			}
		}
	}
	if shown(b) != want {
		t.Errorf("G4: %s, want %s", shown(b), want)
	}
}

func edges(n int) (l []api.Atom) {
	for i := range n {
		l = append(l, atom("e", number(i), number(i+1)))
	}
	return l
}

func TestManyFacts(t *testing.T) {
	for _, c := range []struct {
		s       string
		n, want int
	}{
		{"r(X,Y) :- e(X,Y). r(X,Z) :- e(X,Y), r(Y,Z).", 150, 150 + 150*151/2},
		{"r(X,Y) :- e(X,Y). r(X,Z) :- r(X,Y), e(Y,Z).", 150, 150 + 150*151/2},
		{"r(X,Y) :- e(X,Y). r(X,Z) :- r(X,Y), r(Y,Z).", 60, 60 + 60*61/2},
		{"p(0). p(Y) :- p(X), e(X,Y).", 10000, 2*10000 + 1},
		{"p(0). p(Y) :- e(X,Y), p(X), p(Z), Z<Y. n(X) :- e(X,Y), !p(Y).", 300, 2*300 + 1},
		// both ends of the last atom are known: it is asked for, not looked for
		{"v(X) :- e(X,Y). f(X,Y) :- v(X), v(Y). g(X,Y) :- f(X,Y), f(Y,X).", 200, 200 + 200 + 2*200*200},
	} {
		if l, e, place := Model(c.s, edges(c.n)); len(l) != c.want || e != api.OK || place != 0 {
			t.Errorf("F1: of %d edges %s makes %d atoms, %d, %d, want %d", c.n, c.s, len(l), e, place, c.want)
		}
	}
}

func TestManyLevels(t *testing.T) {
	var b strings.Builder
	for i := 0; b.Len() < 3980; i++ {
		b.WriteString("a" + strconv.Itoa(i) + ":-!a" + strconv.Itoa(i+1) + ".")
	}
	n := strings.Count(b.String(), ".")
	l, e, place := Model(b.String(), nil)
	var want []api.Atom
	for i := n - 1; i >= 0; i -= 2 {
		want = append(want, atom("a"+strconv.Itoa(i)))
	}
	if want = rows.Union(want, nil); shown(l) != shown(want) || e != api.OK || place != 0 {
		t.Errorf("F1: %d levels: %s, %d, %d", n, shown(l), e, place)
	}
}

// A body may have many atoms of its own level.
func TestLongBodies(t *testing.T) {
	for n := range 13 {
		s := "p(1). p(Y):-s(X,Y)" + strings.Repeat(",p(X)", n) + "."
		l, e, _ := Model(s, facts(t, "s(1,2). s(2,3). s(3,4). s(9,8)."))
		want := "p(1) p(2) p(3) p(4) "
		if n == 0 {
			want += "p(8) "
		}
		if shown(l) != want+"s(1,2) s(2,3) s(3,4) s(9,8)" || e != api.OK {
			t.Errorf("F1: %s makes %s, %d", s, shown(l), e)
		}
	}
	for _, c := range []struct{ begins, each, f, want string }{
		{"p:-q", ",p", "q.", "q"},
		{"p:-q", ",p", "p.", "p"},
		{"p(Y):-s(X,Y)", ",p(X)", "p(1). s(1,2). s(2,3).", "p(1) p(2) p(3) s(1,2) s(2,3)"},
		{"p(1):-q", ",p(2),2<3,!r(2)", "p(2). q.", "p(1) p(2) q"},
	} {
		s := c.begins + strings.Repeat(c.each, (3999-len(c.begins))/len(c.each)) + "."
		if l, e, _ := Model(s, facts(t, c.f)); shown(l) != c.want || e != api.OK {
			t.Errorf("F1: %s, many times %s, makes %s, %d, want %s", c.begins, c.each, shown(l), e, c.want)
		}
	}
	var b strings.Builder
	b.WriteString("p(Y):-s(X,Y),p(X)")
	for i := 0; b.Len() < 3990; i++ {
		b.WriteString(",p(A" + strconv.Itoa(i) + ")")
	}
	b.WriteString(".")
	if l, e, _ := Model(b.String(), append(facts(t, "p(0). s(1,0). s(0,1). s(3,4)."), edges(3)...)); shown(l) != "e(0,1) e(1,2) e(2,3) p(0) p(1) s(0,1) s(1,0) s(3,4)" || e != api.OK {
		t.Errorf("F1: %s, %d", shown(l), e)
	}
}
