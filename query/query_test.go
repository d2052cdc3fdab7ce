package query

import (
	"math"
	"reflect"
	"slices"
	"strconv"
	"strings"
	"testing"

	"lore/api"
	"lore/model"
	"lore/text"
)

func number(n int) api.Term  { return api.Term{Kind: 1, Num: n} }
func name(s string) api.Term { return api.Term{Kind: 2, Text: s} }

func atom(name string, terms ...api.Term) api.Atom { return api.Atom{Name: name, Terms: terms} }

// facts are the heads of a program's clauses.
func facts(t *testing.T, s string) (l []api.Atom) {
	t.Helper()
	p, e, place := text.Parse(s)
	if e != api.OK {
		t.Fatalf("Parse(%q) = %d, %d", s, e, place)
	}
	for _, c := range p.Clauses {
		l = append(l, c.Head)
	}
	return l
}

// shown writes rows with a blank between, each as an atom without a name: one without values is `()`.
func shown(rows [][]api.Term) string {
	var s []string
	for _, r := range rows {
		if row := text.Show(api.Atom{Terms: r}); row != "" {
			s = append(s, row)
		} else {
			s = append(s, "()")
		}
	}
	return strings.Join(s, " ")
}

func TestAnswers(t *testing.T) {
	const reach = "r(X,Y) :- e(X,Y). r(X,Z) :- e(X,Y), r(Y,Z)."
	for _, c := range []struct{ s, f, names, want string }{
		{reach + "?- r(X,Y), !e(X,Y).", "e(1,2). e(2,3). e(3,4).", "X Y", "(1,3) (1,4) (2,4)"},
		{reach + "?- r(1,Y).", "e(1,2). e(2,3). e(7,1).", "Y", "(2) (3)"},
		// without variables
		{"?- q(1).", "q(1).", "", "()"},
		{"?- q(1).", "q(2).", "", ""},
		{"?- q.", "q. q.", "", "()"},
		{"?- q.", "", "", ""},
		{"?- !q.", "", "", "()"},
		{"?- !q.", "q.", "", ""},
		{"?- 1<a, a<\"a\", q(1), q(2).", "q(1). q(2).", "", "()"},
		{"?- 1<a, 2<1.", "", "", ""},
		{"p :- q. ?- p, q, !r.", "q.", "", "()"},
		// a variable that stands several times
		{"?- e(X,X).", "e(1,2). e(2,2). e(3,3).", "X", "(2) (3)"},
		{"?- e(X,Y), e(Y,X).", "e(1,2). e(2,1). e(2,3). e(4,4).", "X Y", "(1,2) (2,1) (4,4)"},
		{"?- e(X,Y), e(Y,Z), X<=Z, !e(Z,X).", "e(1,2). e(2,3). e(3,1). e(2,1).", "X Y Z", "(1,2,1) (2,1,2)"},
		{"?- q(X), q(X), q(X).", "q(2). q(1).", "X", "(1) (2)"},
		// the order of the variables is that of the text, whatever gives them values
		{"?- e(Y,X).", "e(1,2). e(2,1).", "Y X", "(1,2) (2,1)"},
		{"?- X>Y, e(Y,X).", "e(1,2). e(2,1). e(0,9).", "X Y", "(2,1) (9,0)"},
		{"?- !e(Z,Z), 1<X, e(X,Y), q(Z).", "e(1,2). e(2,3). e(5,5). q(5). q(6).", "Z X Y", "(6,2,3) (6,5,5)"},
		{"?- q(B), q(A), A!=B.", "q(1). q(2).", "B A", "(1,2) (2,1)"},
		{"?- e(Xa,X), e(X,XA), !q(Xa).", "e(1,2). e(2,3). e(3,1). q(1). q(2).", "Xa X XA", "(3,1,2)"},
		{"?- e(X,1), q(Y).", "e(1,1). q(3). q(2).", "X Y", "(1,2) (1,3)"},
		// rows rise by the first value that differs
		{"?- q(X).", `q(b). q(10). q("a"). q(-3). q(9). q(-20). q(ab). q(a). q(""). q(0). q("B"). q("\n").`, "X", `(-20) (-3) (0) (9) (10) (a) (ab) (b) ("") ("\n") ("B") ("a")`},
		{"?- e(X,Y).", "e(2,1). e(1,b). e(1,2). e(1,10). e(a,1).", "X Y", "(1,2) (1,10) (1,b) (2,1) (a,1)"},
		{"?- e(X,Y), X!=7.", "e(10,2). e(9,3). e(9,20). e(7,7).", "X Y", "(9,3) (9,20) (10,2)"},
		{"?- e(Y,X), q(X).", "e(1,2). e(1,1). e(2,1). q(2). q(1).", "Y X", "(1,1) (1,2) (2,1)"},
		{"?- q(X), e(Y,X).", "e(1,2). e(1,1). e(2,1). q(2). q(1).", "X Y", "(1,1) (1,2) (2,1)"},
		// each row once, however often a fact is given and made
		{"p(X) :- q(X). p(X) :- e(X,Y). ?- p(X).", "q(1). q(1). e(1,2). e(1,3). p(1). p(1).", "X", "(1)"},
		{"p(X,Y) :- e(X,Z), e(Z,Y). ?- p(X,Y), X<Y.", "e(1,2). e(1,3). e(2,4). e(3,4).", "X Y", "(1,4)"},
		// what follows by levels
		{"p(X) :- q(X), !s(X). s(X) :- t(X), !u. ?- p(X), !t(X).", "q(1). q(2). t(1).", "X", "(2)"},
		{"p(X) :- q(X), !s(X). s(X) :- t(X), !u. ?- p(X).", "q(1). q(2). t(1). u.", "X", "(1) (2)"},
		// names that stand nowhere else, and facts that the query does not see
		{"?- q(X), !other(X).", "q(1). p(1). p(1,2).", "X", "(1)"},
		{"?- q(X), other(X).", "q(1). p.", "X", ""},
		{"?- q(X), 2<X.", "q(1). q(2).", "X", ""},
		// terms that look alike
		{"?- q(X), X!=a, X!=1.", `q(a). q("a"). q(1). q("1").`, "X", `("1") ("a")`},
		{"?- q(a,X).", `q("a",1). q(a,2).`, "X", "(2)"},
		{"?- q(007,X).", "q(7,-0).", "X", "(0)"},
	} {
		names, rows, e, place := Ask(c.s, facts(t, c.f), 0)
		if strings.Join(names, " ") != c.names || shown(rows) != c.want || e != api.OK || place != 0 {
			t.Errorf("J1: %s over %s: %v, %s, %d, %d, want %s: %s", c.s, c.f, names, shown(rows), e, place, c.names, c.want)
		}
	}
}

func TestQueriesAreCountedAlone(t *testing.T) {
	const s = "q(1). ?- q(A). p(X) :- q(X). ?- p(B), q(B). ?- q(2). r. ?- !q(2)."
	for n, want := range []string{"A: (1)", "B: (1)", ": ", ": ()"} {
		names, rows, e, place := Ask(s, nil, n)
		if got := strings.Join(names, " ") + ": " + shown(rows); got != want || e != api.OK || place != 0 {
			t.Errorf("J1: query %d: %s, %d, %d, want %s", n, got, e, place, want)
		}
	}
	for _, n := range []int{4, 5, -1, -4, math.MaxInt, math.MinInt} {
		if names, rows, e, place := Ask(s, nil, n); names != nil || rows != nil || e != api.ErrNone || place != 0 {
			t.Errorf("J1: query %d: %v, %v, %d, %d", n, names, rows, e, place)
		}
	}
	for _, s := range []string{"", "p. q :- p.", "% ?- p."} {
		if names, rows, e, place := Ask(s, []api.Atom{atom("p")}, 0); names != nil || rows != nil || e != api.ErrNone || place != 0 {
			t.Errorf("J1: %q: %v, %v, %d, %d", s, names, rows, e, place)
		}
	}
}

func TestErrorsOfModel(t *testing.T) {
	const fits = "p(X) :- q(X), !r(X,X). ?- s(1,2,3), z."
	for _, c := range []struct {
		s    string
		f    []api.Atom
		want api.Errno
		at   int
	}{
		{"?- p", nil, api.ErrForm, 4},
		{"?- p(1234567890123456789).", nil, api.ErrRange, 5},
		{"?- p(1,2,3,4,5,6,7,8,9).", nil, api.ErrMany, 21},
		{"?- p. " + strings.Repeat(" ", 3995), nil, api.ErrLong, 0},
		{"p(1). q. ?- p.", nil, api.ErrArity, 12},
		{"?- p(X), !q(Y).", nil, api.ErrSafe, 12},
		{"?- p(X), Y=X.", nil, api.ErrSafe, 9},
		{"?- q. p :- !q. q :- p.", nil, api.ErrRing, 11},
		{"?- p. p :- !p.", []api.Atom{atom("P")}, api.ErrRing, 11},
		{fits, []api.Atom{atom("q", number(1)), atom("P")}, api.ErrFact, 1},
		{fits, []api.Atom{{}}, api.ErrFact, 0},
		{fits, []api.Atom{atom("z"), atom("z"), atom("q", api.Term{Text: "X"}), atom("q")}, api.ErrFact, 2},
		{fits, []api.Atom{atom("other", slices.Repeat([]api.Term{number(1)}, 9)...)}, api.ErrFact, 0},
		{fits, []api.Atom{atom("q", number(1)), atom("q"), atom("P")}, api.ErrArity, 1},
		{fits, []api.Atom{atom("other"), atom("other", number(1)), atom("s", number(1))}, api.ErrArity, 2},
	} {
		if _, e, at := model.Model(c.s, c.f); e != c.want || at != c.at {
			t.Errorf("F2: Model(%q, %v) = %d, %d, want %d, %d", c.s, c.f, e, at, c.want, c.at)
		}
		// They apply ahead of a query that there is not.
		for _, n := range []int{0, 1, -1} {
			if names, rows, e, at := Ask(c.s, c.f, n); names != nil || rows != nil || e != c.want || at != c.at {
				t.Errorf("J1: Ask(%q, %v, %d) = %v, %v, %d, %d, want %d, %d", c.s, c.f, n, names, rows, e, at, c.want, c.at)
			}
		}
	}
}

func TestOnlyWhatTheKindTells(t *testing.T) {
	f := []api.Atom{
		{Name: "q", Terms: []api.Term{{Kind: 1, Num: 1, Text: "junk"}, {Kind: 2, Num: 9, Text: "a"}}},
		{Name: "q", Terms: []api.Term{{Kind: 1, Num: 1}, {Kind: 2, Num: 8, Text: "a"}}},
		{Name: "r", Terms: []api.Term{{Kind: 1, Num: 1, Text: "other"}}},
		{Name: "r", Terms: []api.Term{{Kind: 3, Num: 1, Text: "a"}}},
	}
	_, rows, e, _ := Ask("?- q(X,Y), r(X), !r(Y), Y=a.", f, 0)
	if !reflect.DeepEqual(rows, [][]api.Term{{number(1), name("a")}}) || e != api.OK {
		t.Errorf("B1, J1: %v, %d", rows, e)
	}
}

func TestNothingIsSharedOrChanged(t *testing.T) {
	const s, want = "p(X,X) :- q(X). ?- q(X), q(Y), p(X,Z).", "(1,1,1) (1,2,1) (2,1,2) (2,2,2)"
	f := []api.Atom{atom("q", number(2)), atom("q", number(1)), atom("q", number(2))}
	names, a, _, _ := Ask(s, f, 0)
	other, b, _, _ := Ask(s, f, 0)
	if !reflect.DeepEqual(f, []api.Atom{atom("q", number(2)), atom("q", number(1)), atom("q", number(2))}) {
		t.Errorf("G4: the facts are %v", f)
	}
	for i := range f {
		f[i].Terms[0] = name("gone")
	}
	if shown(a) != want {
		t.Errorf("G4: %s, want %s", shown(a), want)
	}
	for i := range a {
		a[i][0] = name("x")
		_ = append(a[i], name("x"))
		for _, row := range a[i+1:] {
			if row[0] == name("x") {
				t.Errorf("G4: row %d shares memory with %v", i, row)
			}
		}
	}
	names[0] = "gone"
	if shown(b) != want || !slices.Equal(other, []string{"X", "Y", "Z"}) {
		t.Errorf("G4: %v, %s, want %s", other, shown(b), want)
	}
}

// Nothing bounds how many variables and literals a query has but the text.
func TestLongQueries(t *testing.T) {
	var body, names, values []string
	for i := range 250 {
		body = append(body, "e(V"+strconv.Itoa(i)+",V"+strconv.Itoa(i+1)+")")
		names = append(names, "V"+strconv.Itoa(i))
		values = append(values, strconv.Itoa(i))
	}
	names, values = append(names, "V250"), append(values, "250")
	var f []api.Atom
	for i := range 251 {
		f = append(f, atom("e", number(250-i), number(251-i)))
	}
	got, rows, e, _ := Ask("?- "+strings.Join(body, ",")+",V0<1.", f, 0)
	if want := "(" + strings.Join(values, ",") + ")"; !slices.Equal(got, names) || shown(rows) != want || e != api.OK {
		t.Errorf("J1: %v, %s, %d", got, shown(rows), e)
	}
	_, rows, e, _ = Ask("?- "+strings.Repeat("p,", 1990)+"p.", []api.Atom{atom("p")}, 0)
	if shown(rows) != "()" || e != api.OK {
		t.Errorf("J1: %s, %d", shown(rows), e)
	}
}

func TestManyRows(t *testing.T) {
	var f []api.Atom
	for i := range 300 {
		f = append(f, atom("q", number(i*7%300)))
	}
	names, rows, e, _ := Ask("?- q(Y), q(X), X!=Y.", f, 0)
	if !slices.Equal(names, []string{"Y", "X"}) || len(rows) != 300*299 || e != api.OK {
		t.Fatalf("J1: %v, %d rows, %d", names, len(rows), e)
	}
	for i, r := range rows[1:] {
		if b := rows[i]; b[0].Num > r[0].Num || b[0].Num == r[0].Num && b[1].Num >= r[1].Num {
			t.Fatalf("J1: %v stands ahead of %v", b, r)
		}
	}
}
