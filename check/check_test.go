package check

import (
	"strconv"
	"strings"
	"testing"

	"lore/api"
	"lore/text"
)

// shown writes levels as Name/Terms:Level, with blanks between.
func shown(levels []api.Level) string {
	var l []string
	for _, x := range levels {
		l = append(l, x.Name+"/"+strconv.Itoa(x.Terms)+":"+strconv.Itoa(x.Level))
	}
	return strings.Join(l, " ")
}

func TestLevels(t *testing.T) {
	for s, want := range map[string]string{
		"":                                 "",
		" % p :- !p.":                      "",
		"p.":                               "p/0:0",
		"p(1,X) :- q(X,X,X).":              "p/2:0 q/3:0",
		"p(1,2,3,4,5,6,7,8).":              "p/8:0",
		"p :- !q.":                         "p/0:1 q/0:0",
		"p :- q, !q.":                      "p/0:1 q/0:0",
		"p :- !q, q.":                      "p/0:1 q/0:0",
		"p :- q. p :- !q.":                 "p/0:1 q/0:0",
		"p :- !q. p :- q.":                 "p/0:1 q/0:0",
		"p :- p.":                          "p/0:0",
		"p :- q. q :- p.":                  "p/0:0 q/0:0",
		"p :- q. q :- p. q :- !r.":         "p/0:1 q/0:1 r/0:0",
		"a :- !b. b :- !c. c :- !d. d.":    "a/0:3 b/0:2 c/0:1 d/0:0",
		"d. c :- !d. b :- !c. a :- !b.":    "a/0:3 b/0:2 c/0:1 d/0:0",
		"a :- b. b :- c. c :- !d. e :- d.": "a/0:1 b/0:1 c/0:1 d/0:0 e/0:0",
		"a :- !b, !c, d. b :- !c. d :- e. e :- !f. f :- !g, !b.": "a/0:3 b/0:1 c/0:0 d/0:3 e/0:3 f/0:2 g/0:0",
		"s(X) :- t(X), !r(X). t(X) :- s(X). u :- !s(1). r(1).":   "r/1:0 s/1:1 t/1:1 u/0:2",
		// a query's `!` lifts nothing; its Names have levels too
		"p :- q. ?- !p, !x(1). ?- !p.": "p/0:0 q/0:0 x/1:0",
		"?- p(X), !p(X).":              "p/1:0",
		// Names that are terms, or stand in comparisons, strings or remarks, are none of an atom
		`p(a,"b(") :- q(p), c=d, e!=p, "f"<g. % h :- !h.`: "p/2:0 q/1:0",
		"p(q) :- !r(q,q).": "p/1:1 r/2:0",
		// byte by byte, a beginning ahead
		"b. ab. a_. a0. aB. a. aa. z. a00.": "a/0:0 a0/0:0 a00/0:0 aB/0:0 a_/0:0 aa/0:0 ab/0:0 b/0:0 z/0:0",
	} {
		l, e, place := Check(s)
		if shown(l) != want || e != api.OK || place != 0 {
			t.Errorf("D3: Check(%q) = %s, %d, %d, want %s", s, shown(l), e, place, want)
		}
	}
}

func TestManyLevels(t *testing.T) {
	var s, want []string
	for i := range 250 { // from the highest one down: each clause needs what only stands behind it
		s = append(s, name(250-i)+":-!"+name(249-i)+".")
		want = append(want, name(i)+"/0:"+strconv.Itoa(i))
	}
	want = append(want, name(250)+"/0:250")
	if l, e, place := Check(strings.Join(s, "\n")); shown(l) != strings.Join(want, " ") || e != api.OK || place != 0 {
		t.Errorf("D3: %s, %d, %d, want %s", shown(l), e, place, strings.Join(want, " "))
	}
}

// name is of three digits behind the letter, so that names rise as their numbers do.
func name(i int) string {
	return "p" + strconv.Itoa(1000 + i)[1:]
}

func refused(t *testing.T, s string, want api.Errno, at int) {
	t.Helper()
	if l, e, place := Check(s); l != nil || e != want || place != at {
		t.Errorf("D1: Check(%q) = %v, %d, %d, want %d, %d", s, l, e, place, want, at)
	}
}

// split is a text in two parts: what is wrong has its place where the second one begins.
type split struct{ ahead, from string }

func (w split) refused(t *testing.T, want api.Errno) {
	t.Helper()
	refused(t, w.ahead+w.from, want, len(w.ahead))
}

func TestErrorsOfParse(t *testing.T) {
	for _, s := range []string{
		"p", "p(1,", "p(X) p(1,2).", "p :- !p", "p(X). p(1,2). q :- !q. $", "?- p(X), Y<X", "p :- q(1,2,3,4,5,6,7,8,9).",
		"p(1234567890123456789).", "p(X). ?- ", `p("` + "\n", "\xff", strings.Repeat(" ", 4001), "p :- !p." + strings.Repeat(" ", 3993),
	} {
		_, e, place := text.Parse(s)
		if e == api.OK {
			t.Fatalf("Parse reads %q", s)
		}
		refused(t, s, e, place)
	}
}

func TestLongestText(t *testing.T) {
	refused(t, "p :- !p."+strings.Repeat(" ", 3992), api.ErrRing, 5)
	refused(t, strings.Repeat(" ", 3992)+"p :- !p.", api.ErrRing, 3997)
}

func TestNamesWithOtherNumbersOfTerms(t *testing.T) {
	for _, w := range []split{
		{"p. ", "p(1)."},
		{"p(1). ", "p."},
		{"p(1) :- ", "p."},
		{"p :- q(1), ", "q(1,2)."},
		{"p :- !q(1), !", "q."},
		{"p :- q(1), !  ", "q."},
		{"p(1,2). ?- ", "p(1)."},
		{"?- p(1), ", "p."},
		{"?- p(1). ?- ", "p."},
		{"?- p(1). ", "p."},
		{"?- !p. q. ?- q. ", "q(1) :- p(1)."},
		{"p(1,2,3,4,5,6,7,8). ", "p(1,2,3,4,5,6,7)."},
		{"p(\"p\",p) :- q(p). % p.\n\tq(2) :- p(1,2), p<q, q=p, ", "p(1,2,3)."},
		{"p(\"\\\". p. \\\\\"). ", "p. q. q(1)."},
		// of two the first one from the left, though the other one's Name stood first
		{"p. q. ", "q(1). p(1)."},
		{"p. q :- ", "p(1), q(1)."},
	} {
		w.refused(t, api.ErrArity)
	}
}

func TestVariablesThatNothingBinds(t *testing.T) {
	for _, w := range []split{
		{"p(", "X)."},
		{"p(1,", "Xy_1,Y)."},
		{"p(1 ,%X\n\t", "X ) ."},
		{"p(", "X) :- q(Y)."},
		{"p(Y,", "X) :- q(Y)."},
		{"p(", "X) :- !q(X)."},
		{"p(", "X) :- X=1."},
		{"p(", "X) :- q(Xx), q(\"X\"), q(x)."},
		{"p(\"X\",x,", "X) :- q(x)."},
		{"p :- !q(", "X)."},
		{"p :- q(X), !r(X,", "Y)."},
		{"p(X) :- !r(", "Y), q(X)."},
		{"p :- q(X), !r(\"Y\",y,X,", "Y)."},
		{"p :- ", "X=1."},
		{"p :- 1<", "X."},
		{"p :- x<", "X."},
		{"p :- \"X\"!=", "X."},
		{"p :- q(X), X!=", "Y."},
		{"p :- q(Y), ", "X>=Y."},
		{"p :- ", "X=X."},
		{"p :- ", "X=1, X=Y, !q(Y)."},
		{"p(X) :- q(X), !r(", "Z), Y<1."},
		{"?- ", "X<1."},
		{"?- p(Y), !q(", "X)."},
		{"?- !p(", "X)."},
		// what binds in another clause or query, or in the head, binds not here
		{"p(X) :- q(X). p(", "X) :- q(Y)."},
		{"p(X) :- q(X). ?- ", "X=1."},
		{"?- q(X). p(", "X)."},
		{"?- q(X). ?- !q(", "X). p(X)."},
		{"p(X) :- q(X,Y). q(", "Y,X) :- p(X)."},
		{"p :- q(X), X<1. q(1). ?- q(X), X!=1,\n%X\n", "Y<X."},
	} {
		w.refused(t, api.ErrSafe)
	}
}

func TestRings(t *testing.T) {
	for _, w := range []split{
		{"p :- ", "!p."},
		{"p :-%!p\n", "! p."},
		{"p :- ", "!q. q :- p."},
		{"q :- p. p :- ", "!q."},
		{"p :- q, ", "!r. q :- p. r :- q."},
		{"p :- ", "!q. q :- r. r :- s. s :- p."},
		{"p :- ", "!q. q :- !p."},
		{"p :- q. q :- p, ", "!p."},
		{"p :- !r. p :- ", "!p."},
		{"p :- !r, ", "!p, !p."},
		{"p(X) :- q(X), X!=1, \"!p\"!=X, ", "!p(X)."},
		{"p(X) :- q(X,\"!\",\"\\\"!\"), ", "!p(X)."},
		{"?- !p, !p. p :- q. ?- !p. q :- ", "!p."},
		{"p :- !r. ?- !p. q. p :- r, ", "!q. q :- p."},
		{"x. p :- !x, p!=x, ", "!q, !p. q :- !x, q. q :- p."},
	} {
		w.refused(t, api.ErrRing)
	}
}

func TestNoRing(t *testing.T) {
	for _, s := range []string{
		"p :- !q. q :- q.", "p :- p, !q. q.", "p :- q, !r. q :- p.", "?- p, !p.", "p :- q. ?- !p, !q.",
		"p(p) :- !q(p).", "p(X) :- q(X), X!=p.", "p :- !q. r :- p, !q. q :- !s. s :- t. t :- s.",
	} {
		if _, e, place := Check(s); e != api.OK || place != 0 {
			t.Errorf("D1, D2: Check(%q) = %d, %d", s, e, place)
		}
	}
}

func TestOrderOfErrors(t *testing.T) {
	for _, w := range []struct {
		split
		e api.Errno
	}{
		{split{"q :- !q. p(X). p(1,2). ", "$"}, api.ErrForm},
		{split{"q :- !q. p(X). r :- Y<1. ", "p(1,2)."}, api.ErrArity},
		{split{"q :- !q. r. ", "r(X)."}, api.ErrArity},
		{split{"q :- !q. p :- !p. r(", "X)."}, api.ErrSafe},
		{split{"q :- !q. ?- ", "X<1."}, api.ErrSafe},
		{split{"p(", "X) :- !p(X)."}, api.ErrSafe},
		{split{"q :- ", "!q. p :- !p."}, api.ErrRing},
	} {
		w.refused(t, w.e)
	}
}

// each hands all texts of at most so many signs to a function.
func each(signs []string, most int, take func(string)) {
	var grow func(s string, left int)
	grow = func(s string, left int) {
		take(s)
		if left == 0 {
			return
		}
		for _, sign := range signs {
			grow(s+sign, left-1)
		}
	}
	grow("", most)
}

func TestAllSmallTexts(t *testing.T) {
	signs := []string{"p", "X", "(", ")", ",", ".", ":-", "?-", "!", "=", "<=", " ", "%\n", `"!."`, "-1"}
	each(signs, 4, func(s string) {
		for _, s := range []string{s, "p:-" + s + ".", "?-p(X),!" + s + ".p."} {
			_, want, at := text.Parse(s)
			l, e, place := Check(s)
			if want != api.OK && (e != want || place != at) {
				t.Fatalf("D1: Check(%q) = %d, %d, want %d, %d", s, e, place, want, at)
			}
			if e != api.OK && (l != nil || place >= len(s)+1) {
				t.Fatalf("G2: Check(%q) = %v, %d, %d", s, l, e, place)
			}
		}
	})
}

func TestAnswersShareNothing(t *testing.T) {
	const s = "p :- !q. r."
	a, _, _ := Check(s)
	b, _, _ := Check(s)
	a[0], a[1], a[2] = api.Level{}, api.Level{}, api.Level{}
	if shown(b) != "p/0:1 q/0:0 r/0:0" {
		t.Errorf("G4: %s", shown(b))
	}
}
