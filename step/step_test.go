package step

import (
	"math"
	"reflect"
	"slices"
	"strconv"
	"strings"
	"testing"

	"lore/api"
	"lore/check"
	"lore/rows"
	"lore/text"
)

func number(n int) api.Term    { return api.Term{Kind: 1, Num: n} }
func name(s string) api.Term   { return api.Term{Kind: 2, Text: s} }
func quoted(s string) api.Term { return api.Term{Kind: 3, Text: s} }

func atom(name string, terms ...api.Term) api.Atom { return api.Atom{Name: name, Terms: terms} }

// facts are the heads of a program's clauses.
func facts(t *testing.T, s string) (l []api.Atom) {
	t.Helper()
	p, e, place := text.Parse(s)
	if e != api.OK {
		t.Fatalf("Parse(%q) = %d, %d", s, e, place)
	}
	for _, c := range p.Clauses {
		l = append(l, c.Head)
	}
	return l
}

// shown writes atoms with a blank between.
func shown(l []api.Atom) string {
	var s []string
	for _, a := range l {
		s = append(s, text.Show(a))
	}
	return strings.Join(s, " ")
}

func TestWhatAClauseMakes(t *testing.T) {
	f := facts(t, `e(1,2). e(2,3). e(3,3). e(a,1). q(1). q(a). q("a"). q(-5). q(10). q(2). q(ab). q(""). z. n(1,1,2). n(1,2,1). n(3,3,3).`)
	for s, want := range map[string]string{
		// values for variables
		"p(X) :- q(X).":                          `p(-5) p(1) p(2) p(10) p(a) p(ab) p("") p("a")`,
		"p(X,Y) :- e(Y,X).":                      "p(1,a) p(2,1) p(3,2) p(3,3)",
		"p(X,Z) :- e(X,Y), e(Y,Z).":              "p(1,3) p(2,3) p(3,3) p(a,2)",
		"p(X) :- e(1,X).":                        "p(2)",
		"p(X) :- e(X,3).":                        "p(2) p(3)",
		"p(X) :- e(X,Y), q(Y).":                  "p(1) p(a)",
		"p(Y) :- e(X,Y), e(X,3).":                "p(3)",
		"p(7,X,a,\"b\",X) :- e(X,1).":            `p(7,a,a,"b",a)`,
		"p(1) :- q(X).":                          "p(1)",
		"p :- e(X,Y), e(Y,Z), e(Z,U), q(U).":     "",
		"p :- e(X,Y), e(Y,Z), q(Z).":             "p",
		"p(X) :- q(X), e(A,B), e(C,D).":          `p(-5) p(1) p(2) p(10) p(a) p(ab) p("") p("a")`,
		"p(X) :- q(X), e(A,X), q(B), e(B,A).":    "p(2)",
		"p(X) :- none(X).":                       "",
		"p(X) :- q(X), none(X).":                 "",
		"p(X) :- q(X), q(x).":                    "",
		"p(X) :- q(\"\"), q(X), X<0.":            "p(-5)",
		"p(X,X) :- q(X), X<0, q(X), e(1,2), z.":  "p(-5,-5)",
		"p(X) :- q(X), q(007), X=1.":             "",
		"p(X) :- q(X), q(001), X=1.":             "p(1)",
		"q(X) :- q(X), X=1. e(X,X) :- e(X,X).":   "e(3,3) q(1)",
		"p(X1,X) :- e(X1,X), q(X1), q(X).":       "p(1,2) p(a,1)",
		"p(A,B,C,D,E) :- e(A,B), n(C,D,E), A>3.": "p(a,1,1,1,2) p(a,1,1,2,1) p(a,1,3,3,3)",
		// a variable that stands twice in an atom
		"p(X) :- e(X,X).":            "p(3)",
		"p(X) :- n(X,X,X).":          "p(3)",
		"p(X,Y) :- n(X,X,Y).":        "p(1,2) p(3,3)",
		"p(X,Y) :- n(X,Y,X).":        "p(1,2) p(3,3)",
		"p(X,Y) :- n(Y,X,X).":        "p(3,3)",
		"p(X) :- e(X,Y), !e(Y,Y).":   "p(1) p(a)",
		"p(X) :- q(X), !n(X,X,X).":   `p(-5) p(1) p(2) p(10) p(a) p(ab) p("") p("a")`,
		"p(X) :- e(X,Y), !n(Y,Y,Y).": "p(1) p(a)",
		// atoms with `!`
		"p(X) :- e(X,Y), !q(X).":       "p(3)",
		"p(X) :- !q(X), e(X,Y).":       "p(3)",
		"p(X) :- e(X,Y), !q(Y).":       "p(2) p(3)",
		"p(X) :- q(X), !e(X,3), X>=2.": `p(10) p(a) p(ab) p("") p("a")`,
		"p :- !z.":                     "",
		"p :- !none.":                  "p",
		"p :- !none(1), z.":            "p",
		"p :- z, !q(0).":               "p",
		"p :- z, !q(1).":               "",
		"p :- !q(\"1\"), !q(\"ab\").":  "p",
		"p :- !q(01).":                 "",
		// a clause without a body, and what only follows from what is made
		"p.":                               "p",
		"p(1,a,\"\\n\").":                  `p(1,a,"\n")`,
		"p. p. r :- p. p :- z.":            "p",
		"p(1). p(X) :- q(X), X>1, X<a.":    "p(1) p(2) p(10)",
		"r(X) :- p(X). p(X) :- q(X), X<0.": "p(-5)",
		// queries make nothing
		"?- q(X).": "",
		"":         "",
		// in order: by Name, terms, Kind, numbers by their worth
		"p(X) :- q(X), X<3. o(X) :- q(X), X>a. pp :- z. p1 :- z. o1(Y,X) :- e(X,Y), X!=a.": `o(ab) o("") o("a") o1(2,1) o1(3,2) o1(3,3) p(-5) p(1) p(2) p1 pp`,
	} {
		if l, e, place := Step(s, f); shown(l) != want || e != api.OK || place != 0 {
			t.Errorf("E2, E3: Step(%q) = %s, %d, %d, want %s", s, shown(l), e, place, want)
		}
	}
}

func TestComparisons(t *testing.T) {
	// each ahead of the next one
	terms := []string{"-999999999999999999", "-10", "-9", "0", "1", "2", "10", "999999999999999999", "a", "aB", "ab", "b", `""`, `"1"`, `"B"`, `"a"`, `"a\n"`, `"ab"`, "\"\xff\""}
	for i, a := range terms {
		for j, b := range terms {
			for op, want := range map[string]bool{"=": i == j, "!=": i != j, "<": i < j, "<=": i <= j, ">": i > j, ">=": i >= j} {
				for _, s := range []string{"p :- " + a + op + b + ".", "p :- q(X), X" + op + b + ".", "p :- X" + op + "Y, q(X), r(Y).", "p :- q(X), " + a + op + "Y, r(Y)."} {
					l, e, _ := Step(s, facts(t, "q("+a+"). r("+b+")."))
					if e != api.OK || (shown(l) == "p") != want {
						t.Errorf("E2: of q(%s) and r(%s) %s makes %s, %d", a, b, s, shown(l), e)
					}
				}
			}
		}
	}
	if l, _, _ := Step("p :- 0=-0, 007=7, 1<=01, a>=a.", nil); shown(l) != "p" {
		t.Errorf("E2: %s", shown(l))
	}
}

func TestOneClause(t *testing.T) {
	const s = "p(X) :- q(X). ?- p(X). r. ?- r. p(1). p(X) :- q(X), X<a. ?- p(1)."
	f := facts(t, "q(b). q(2).")
	for i, want := range []string{"p(2) p(b)", "r", "p(1)", "p(2)"} {
		if l, e, place := Holds(s, f, i); shown(l) != want || e != api.OK || place != 0 {
			t.Errorf("E3: Holds(%d) = %s, %d, %d, want %s", i, shown(l), e, place, want)
		}
	}
	for _, i := range []int{-1, 4, 5, 6, 7, math.MaxInt, math.MinInt} {
		if l, e, place := Holds(s, f, i); l != nil || e != api.ErrNone || place != 0 {
			t.Errorf("E3: Holds(%d) = %s, %d, %d", i, shown(l), e, place)
		}
	}
	for _, s := range []string{"", "?- p."} {
		if l, e, place := Holds(s, nil, 0); l != nil || e != api.ErrNone || place != 0 {
			t.Errorf("E3: Holds(%q) = %s, %d, %d", s, shown(l), e, place)
		}
	}
}

// refuse looks at both faces, at a clause that there is and at one that there is not.
func refuse(t *testing.T, s string, f []api.Atom, want api.Errno, at int) {
	t.Helper()
	if l, e, place := Step(s, f); l != nil || e != want || place != at {
		t.Errorf("E3: Step(%q, %v) = %v, %d, %d, want %d, %d", s, f, l, e, place, want, at)
	}
	for _, i := range []int{0, 99, -1} {
		if l, e, place := Holds(s, f, i); l != nil || e != want || place != at {
			t.Errorf("E3: Holds(%q, %v, %d) = %v, %d, %d, want %d, %d", s, f, i, l, e, place, want, at)
		}
	}
}

func TestErrorsOfCheck(t *testing.T) {
	for _, s := range []string{"p", "p. $", "p(1). p.", "?- p(1), p.", "p(X).", "p :- X<1.", "p :- !p.", "p. q :- r, !q.", strings.Repeat(" ", 4001)} {
		_, want, at := check.Check(s)
		if want == api.OK {
			t.Fatalf("Check lets %q pass", s)
		}
		refuse(t, s, nil, want, at)
		refuse(t, s, []api.Atom{atom("P"), atom("p", number(1), number(2))}, want, at)
	}
}

func TestFactsThatDoNotFit(t *testing.T) {
	const s = "p(X) :- q(X), !r(X,X). ?- s(1,2,3), z."
	fit := facts(t, `q(1). p("X"). r(1,2). s(a,b,c). z. other. other(1). other(1,2,3,4,5,6,7,8). q(1).`)
	if l, e, place := Step(s, fit); e != api.OK || place != 0 || shown(l) != "p(1)" {
		t.Errorf("E1: %s, %d, %d", shown(l), e, place)
	}
	with := func(a ...api.Atom) []api.Atom { return append(slices.Clone(fit), a...) }
	for _, a := range []api.Atom{
		{}, atom("P"), atom("1"), atom("q q"), atom("", number(1)), atom("q\n", number(1)),
		atom("q", api.Term{Text: "X"}), atom("q", api.Term{Text: "a"}), atom("q", api.Term{Kind: 4, Text: "a"}), atom("q", api.Term{Kind: -1}),
		atom("q", name("X")), atom("q", name("")), atom("q", name("a b")), atom("q", number(1e18)), atom("q", number(-1e18)), atom("q", number(math.MinInt)),
		atom("other", slices.Repeat([]api.Term{number(1)}, 9)...), atom("q", number(1), api.Term{Text: "X"}), atom("z", name("A")),
	} {
		refuse(t, s, with(a), api.ErrFact, len(fit))
		refuse(t, s, []api.Atom{a}, api.ErrFact, 0)
		refuse(t, s, with(a, atom("q")), api.ErrFact, len(fit))
		refuse(t, s, with(atom("z"), a, atom("Q")), api.ErrFact, len(fit)+1)
	}
	for _, a := range []api.Atom{
		atom("q"), atom("q", number(1), number(2)), atom("p"), atom("r", number(1)), atom("s"), atom("s", number(1), number(2), number(3), number(4)), atom("z", number(1)),
		atom("z", slices.Repeat([]api.Term{number(1)}, 8)...),
	} {
		refuse(t, s, with(a), api.ErrArity, len(fit))
		refuse(t, s, []api.Atom{a}, api.ErrArity, 0)
		refuse(t, s, with(a, atom("Q")), api.ErrArity, len(fit))
	}
}

func TestOnlyWhatTheKindTells(t *testing.T) {
	f := []api.Atom{
		{Name: "q", Terms: []api.Term{{Kind: 1, Num: 1, Text: "junk"}, {Kind: 2, Num: 9, Text: "a"}}},
		{Name: "q", Terms: []api.Term{{Kind: 1, Num: 1}, {Kind: 2, Num: 8, Text: "a"}}},
		{Name: "r", Terms: []api.Term{{Kind: 1, Num: 1, Text: "other"}}},
		{Name: "s", Terms: []api.Term{{Kind: 3, Num: 5, Text: "a"}}},
		{Name: "z", Terms: []api.Term{}},
	}
	for s, want := range map[string][]api.Atom{
		"p(Y,X) :- q(X,Y), r(X).":     {atom("p", name("a"), number(1))},
		"p(Y) :- q(1,Y), q(X,a).":     {atom("p", name("a"))},
		"p :- q(X,Y), !r(X).":         nil,
		"p :- z, s(\"a\"), !s(a).":    {atom("p")},
		"p :- q(X,Y), X=1, Y=a, X<Y.": {atom("p")},
		"p(X) :- s(X), X!=\"a\".":     nil,
	} {
		if l, e, _ := Step(s, f); e != api.OK || !reflect.DeepEqual(l, want) {
			t.Errorf("B1, E2: Step(%q) = %v, %d, want %v", s, l, e, want)
		}
	}
}

func TestNothingIsSharedOrChanged(t *testing.T) {
	const s = "p(X,X) :- q(X). r(X) :- q(X). p(1,2). t(X) :- q(X)."
	f := []api.Atom{atom("q", number(2)), atom("q", number(1)), atom("q", number(2))}
	want := []api.Atom{atom("q", number(2)), atom("q", number(1)), atom("q", number(2))}
	a, _, _ := Step(s, f)
	b, _, _ := Step(s, f)
	c, _, _ := Holds(s, f, 0)
	if !reflect.DeepEqual(f, want) {
		t.Errorf("G4: the facts are %v", f)
	}
	told, toldC := shown(b), shown(c)
	for i := range f {
		f[i].Terms[0] = name("gone")
	}
	for i := range a {
		a[i].Terms[0] = name("x")
		_ = append(a[i].Terms, name("y"))
		if i+1 < len(a) && a[i+1].Terms[0] == name("x") {
			t.Errorf("G4: %d and %d share memory", i, i+1)
		}
	}
	if shown(b) != told || shown(c) != toldC || told != "p(1,1) p(1,2) p(2,2) r(1) r(2) t(1) t(2)" || toldC != "p(1,1) p(2,2)" {
		t.Errorf("G4: %s, %s", shown(b), shown(c))
	}
}

func TestManyFacts(t *testing.T) {
	var f []api.Atom
	for i := range 3000 {
		f = append(f, atom("e", number(i), number(i+1)), atom("q", number(i)))
	}
	for s, want := range map[string]int{
		"p(X,Z) :- e(X,Y), e(Y,Z).":                2999,
		"p(X) :- q(X), q(Y), q(Z), q(U).":          3000, // one way for the rest is enough
		"p :- q(X), q(Y), q(Z), q(U), X<Y.":        1,
		"p(X) :- e(X,Y), e(Y,Z), e(Z,U), X>2990.":  7,
		"p(X,Y) :- q(X), q(Y), X>2989, Y>2989.":    100,
		"p(Y) :- q(X), e(X,Y), !q(Y).":             1,
		"p(Z) :- e(0,X), e(X,Y), e(Y,Z), !e(Z,X).": 1,
	} {
		if l, e, _ := Step(s, f); len(l) != want || e != api.OK {
			t.Errorf("E2: %s makes %d atoms, %d, want %d", s, len(l), e, want)
		}
	}
}

func TestLongBody(t *testing.T) {
	s := "p(X):-q(X)" + strings.Repeat(",q(X),X!=2,!r(X)", 240) + "."
	if len(s) > 4000 {
		t.Fatal(len(s))
	}
	if l, e, place := Step(s, facts(t, "q(1). q(2). q(3). r(3).")); shown(l) != "p(1)" || e != api.OK || place != 0 {
		t.Errorf("E2: %s, %d, %d", shown(l), e, place)
	}
}

func TestUnionOfAllClauses(t *testing.T) {
	const s = "p(X) :- q(X), X>1. p(X) :- q(X), X<3. r(X) :- p(X). ?- p(X). q(9)."
	f := facts(t, "q(1). q(2). q(3). p(5).")
	var want []api.Atom
	for i := range 4 {
		l, _, _ := Holds(s, f, i)
		want = rows.Union(want, l)
	}
	if l, e, _ := Step(s, f); e != api.OK || !reflect.DeepEqual(l, want) || shown(l) != "p(1) p(2) p(3) q(9) r(5)" {
		t.Errorf("E3: %s, want %s", shown(l), shown(want))
	}
}

func TestAtomsOfEightTerms(t *testing.T) {
	var terms []string
	for i := range 8 {
		terms = append(terms, "X"+strconv.Itoa(i))
	}
	s := "p(" + strings.Join(terms, ",") + ") :- q(" + strings.Join(terms, ",") + "), X0<X7."
	f := facts(t, "q(1,2,3,4,5,6,7,8). q(8,7,6,5,4,3,2,1).")
	if l, e, _ := Step(s, f); shown(l) != "p(1,2,3,4,5,6,7,8)" || e != api.OK {
		t.Errorf("E2: %s, %d", shown(l), e)
	}
}
