package live

import (
	"math"
	"reflect"
	"slices"
	"strings"
	"testing"

	"lore/api"
	"lore/check"
	"lore/text"
)

func number(n int) api.Term  { return api.Term{Kind: 1, Num: n} }
func name(s string) api.Term { return api.Term{Kind: 2, Text: s} }

func atom(name string, terms ...api.Term) api.Atom { return api.Atom{Name: name, Terms: terms} }

// fact is the atom of a text that the test knows to be right.
func fact(t *testing.T, s string) api.Atom {
	t.Helper()
	p, e, place := text.Parse(s + ".")
	if e != api.OK {
		t.Fatalf("Parse(%q) = %d, %d", s, e, place)
	}
	return p.Clauses[0].Head
}

// shown writes atoms with a blank between.
func shown(l []api.Atom) string {
	var s []string
	for _, a := range l {
		s = append(s, text.Show(a))
	}
	return strings.Join(s, " ")
}

func made(t *testing.T, s string) *Live {
	t.Helper()
	l, e, place := New(s)
	if l == nil || e != api.OK || place != 0 {
		t.Fatalf("K1: New(%q) = %v, %d, %d", s, l, e, place)
	}
	return l
}

// change is `+` and a fact to add, or `-` and one to remove.
func change(t *testing.T, l *Live, what string) api.Errno {
	t.Helper()
	if what[0] == '+' {
		return l.Add(fact(t, what[1:]))
	}
	return l.Remove(fact(t, what[1:]))
}

func news(l *Live) string {
	came, gone := l.News()
	return shown(came) + " / " + shown(gone)
}

func TestErrorsOfCheck(t *testing.T) {
	for _, c := range []struct {
		s    string
		want api.Errno
		at   int
	}{
		{"p", api.ErrForm, 1},
		{"?- p(X,).", api.ErrForm, 7},
		{"p(1234567890123456789).", api.ErrRange, 2},
		{"p(1,2,3,4,5,6,7,8,9).", api.ErrMany, 18},
		{strings.Repeat(" ", 4001), api.ErrLong, 0},
		{"p(1). q. p.", api.ErrArity, 9},
		{"p(X) :- q(Y).", api.ErrSafe, 2},
		{"p :- !q. q :- p.", api.ErrRing, 5},
	} {
		if _, e, at := check.Check(c.s); e != c.want || at != c.at {
			t.Errorf("D1: Check(%q) = %d, %d, want %d, %d", c.s, e, at, c.want, c.at)
		}
		if l, e, at := New(c.s); l != nil || e != c.want || at != c.at {
			t.Errorf("K1: New(%q) = %v, %d, %d, want %d, %d", c.s, l, e, at, c.want, c.at)
		}
	}
}

func TestAheadOfTheFirstChange(t *testing.T) {
	for s, want := range map[string]string{
		"":                                   "",
		"p(X) :- q(X).":                      "",
		"q(2). q(1). p(X) :- q(X). r :- !s.": "p(1) p(2) q(1) q(2) r",
	} {
		l := made(t, s)
		for range 2 {
			if g, m, n := l.Given(), shown(l.Model()), news(l); g != nil || m != want || n != want+" / " {
				t.Errorf("K3: %s: %v, %s, %s, want %s", s, g, m, n, want)
			}
		}
		// News alone, without Model ahead of it, and behind what does not count.
		l = made(t, s)
		if n := news(l); n != want+" / " {
			t.Errorf("K3: %s: %s, want %s", s, n, want)
		}
		l = made(t, s)
		if e, f := l.Remove(fact(t, "q(1)")), l.Add(atom("Q")); e != api.ErrNone || f != api.ErrFact || news(l) != want+" / " {
			t.Errorf("K2, K3: %s: %d, %d, %s, want %s", s, e, f, news(l), want)
		}
	}
}

// asked is a change, what it is answered, and what can be asked behind it.
type asked struct {
	change             string
	want               api.Errno
	given, model, news string
}

func TestChanges(t *testing.T) {
	for s, steps := range map[string][]asked{
		"r(X,Y) :- e(X,Y). r(X,Z) :- e(X,Y), r(Y,Z). p(X) :- e(X,Y), !r(Y,X).": {
			{"+e(1,2)", api.OK, "e(1,2)", "e(1,2) p(1) r(1,2)", "e(1,2) p(1) r(1,2) / "},
			{"+e(2,1)", api.OK, "e(1,2) e(2,1)", "e(1,2) e(2,1) r(1,1) r(1,2) r(2,1) r(2,2)", "e(2,1) r(1,1) r(2,1) r(2,2) / p(1)"},
			{"-e(1,2)", api.OK, "e(2,1)", "e(2,1) p(2) r(2,1)", "p(2) / e(1,2) r(1,1) r(1,2) r(2,2)"},
			{"-e(2,1)", api.OK, "", "", " / e(2,1) p(2) r(2,1)"},
		},
		// errors change nothing, and do not count
		"p(X) :- q(X). r :- !s.": {
			{"+q(1)", api.OK, "q(1)", "p(1) q(1) r", "p(1) q(1) / "},
			{"+q(1)", api.ErrTwice, "q(1)", "p(1) q(1) r", "p(1) q(1) / "},
			{"+q(1,2)", api.ErrArity, "q(1)", "p(1) q(1) r", "p(1) q(1) / "},
			{"+q", api.ErrArity, "q(1)", "p(1) q(1) r", "p(1) q(1) / "},
			{"+s(1)", api.ErrArity, "q(1)", "p(1) q(1) r", "p(1) q(1) / "},
			{"+q(X)", api.ErrFact, "q(1)", "p(1) q(1) r", "p(1) q(1) / "},
			{"+q(X,1)", api.ErrFact, "q(1)", "p(1) q(1) r", "p(1) q(1) / "},
			{"-q(2)", api.ErrNone, "q(1)", "p(1) q(1) r", "p(1) q(1) / "},
			{"-p(1)", api.ErrNone, "q(1)", "p(1) q(1) r", "p(1) q(1) / "},
			{"-q(X)", api.ErrNone, "q(1)", "p(1) q(1) r", "p(1) q(1) / "},
			{"-q", api.ErrNone, "q(1)", "p(1) q(1) r", "p(1) q(1) / "},
			{`-q("1")`, api.ErrNone, "q(1)", "p(1) q(1) r", "p(1) q(1) / "},
			{"+s", api.OK, "q(1) s", "p(1) q(1) s", "s / r"},
			{"-s", api.OK, "q(1)", "p(1) q(1) r", "r / s"},
			{"-s", api.ErrNone, "q(1)", "p(1) q(1) r", "r / s"},
		},
		// what is given and follows, too
		"p(X) :- q(X). q(3).": {
			{"+q(1)", api.OK, "q(1)", "p(1) p(3) q(1) q(3)", "p(1) q(1) / "},
			{"+p(1)", api.OK, "p(1) q(1)", "p(1) p(3) q(1) q(3)", " / "},
			{"+p(1)", api.ErrTwice, "p(1) q(1)", "p(1) p(3) q(1) q(3)", " / "},
			{"-q(1)", api.OK, "p(1)", "p(1) p(3) q(3)", " / q(1)"},
			{"+q(1)", api.OK, "p(1) q(1)", "p(1) p(3) q(1) q(3)", "q(1) / "},
			{"-p(1)", api.OK, "q(1)", "p(1) p(3) q(1) q(3)", " / "},
			{"-p(1)", api.ErrNone, "q(1)", "p(1) p(3) q(1) q(3)", " / "},
			{"+q(3)", api.OK, "q(1) q(3)", "p(1) p(3) q(1) q(3)", " / "},
			{"-q(3)", api.OK, "q(1)", "p(1) p(3) q(1) q(3)", " / "},
			{"-q(3)", api.ErrNone, "q(1)", "p(1) p(3) q(1) q(3)", " / "},
		},
		// a change that is taken back
		"a :- !b. b :- !c. c :- d.": {
			{"+d", api.OK, "d", "a c d", "a c d / b"},
			{"-d", api.OK, "", "b", "b / a c d"},
			{"+d", api.OK, "d", "a c d", "a c d / b"},
			{"+b", api.OK, "b d", "b c d", "b / a"},
			{"-b", api.OK, "d", "a c d", "a / b"},
		},
		// Names that stand in a query alone have their number of terms; those that stand nowhere have any
		"?- q(X), !s.": {
			{"+q", api.ErrArity, "", "", " / "},
			{"+s(1)", api.ErrArity, "", "", " / "},
			{"+other(b)", api.OK, "other(b)", "other(b)", "other(b) / "},
			{"+other", api.OK, "other other(b)", "other other(b)", "other / "},
			{"+other(1,2,3,4,5,6,7,8)", api.OK, "other other(b) other(1,2,3,4,5,6,7,8)", "other other(b) other(1,2,3,4,5,6,7,8)", "other(1,2,3,4,5,6,7,8) / "},
			{"+other(-7)", api.OK, "other other(-7) other(b) other(1,2,3,4,5,6,7,8)", "other other(-7) other(b) other(1,2,3,4,5,6,7,8)", "other(-7) / "},
			{"+q(10)", api.OK, "other other(-7) other(b) other(1,2,3,4,5,6,7,8) q(10)", "other other(-7) other(b) other(1,2,3,4,5,6,7,8) q(10)", "q(10) / "},
			{"+a", api.OK, "a other other(-7) other(b) other(1,2,3,4,5,6,7,8) q(10)", "a other other(-7) other(b) other(1,2,3,4,5,6,7,8) q(10)", "a / "},
		},
	} {
		l := made(t, s)
		for i, c := range steps {
			e := change(t, l, c.change)
			if g, m, n := shown(l.Given()), shown(l.Model()), news(l); e != c.want || g != c.given || m != c.model || n != c.news {
				t.Errorf("K2, K3: %s: step %d, %s: %d, %s, %s, %s, want %v", s, i, c.change, e, g, m, n, c)
			}
		}
		askedAtLast(t, s, steps)
	}
}

// askedAtLast goes through the same steps, but asks nothing ahead of the last one: first News, and then the model; and the other way about.
func askedAtLast(t *testing.T, s string, steps []asked) {
	t.Helper()
	for last, want := range steps {
		a, b := made(t, s), made(t, s)
		for _, c := range steps[:last+1] {
			change(t, a, c.change)
			change(t, b, c.change)
		}
		if n, m := news(a), shown(a.Model()); n != want.news || m != want.model {
			t.Errorf("K3: %s: behind step %d: %s, then %s, want %v", s, last, n, m, want)
		}
		if m, n := shown(b.Model()), news(b); n != want.news || m != want.model {
			t.Errorf("K3: %s: behind step %d: %s, then %s, want %v", s, last, m, n, want)
		}
	}
}

func TestNoFacts(t *testing.T) {
	l := made(t, "p(X) :- q(X,Y).")
	for i, a := range []api.Atom{
		{},
		atom(""),
		atom("Q"),
		atom("q r"),
		atom("Q", number(1), number(2)),
		atom("q", number(1), api.Term{Kind: 0, Text: "X"}),
		atom("q", number(1), api.Term{Kind: 4, Text: "x"}),
		atom("q", number(1), api.Term{Kind: -1}),
		atom("q", number(1), name("X")),
		atom("q", number(1), name("")),
		atom("q", number(1), number(1000000000000000000)),
		atom("q", number(math.MinInt), number(1)),
		atom("q", name("X")), // ErrFact is named ahead of ErrArity
		atom("other", slices.Repeat([]api.Term{number(1)}, 9)...),
	} {
		if e, f := l.Add(a), l.Remove(a); e != api.ErrFact || f != api.ErrNone {
			t.Errorf("K2: atom %d: %d, %d", i, e, f)
		}
	}
	for i, a := range []api.Atom{
		atom("q", number(999999999999999999), number(-999999999999999999)),
		atom("q", name("x_1Y"), api.Term{Kind: 3, Text: "\xff\n\""}),
		atom("other", slices.Repeat([]api.Term{number(1)}, 8)...),
	} {
		if e, f, g, h := l.Add(a), l.Add(a), l.Remove(a), l.Remove(a); e != api.OK || f != api.ErrTwice || g != api.OK || h != api.ErrNone {
			t.Errorf("K2: fact %d: %d, %d, %d, %d", i, e, f, g, h)
		}
	}
	if g := l.Given(); g != nil {
		t.Errorf("K3: %v", g)
	}
}

func TestOnlyWhatTheKindTells(t *testing.T) {
	l := made(t, "p(X) :- q(X,Y).")
	junk := atom("q", api.Term{Kind: 1, Num: 1, Text: "junk"}, api.Term{Kind: 2, Num: 9, Text: "a"})
	plain := atom("q", number(1), name("a"))
	if e, f := l.Add(junk), l.Add(plain); e != api.OK || f != api.ErrTwice {
		t.Errorf("B1, K2: %d, %d", e, f)
	}
	if g := l.Given(); !reflect.DeepEqual(g, []api.Atom{plain}) {
		t.Errorf("A2, K3: %v", g)
	}
	if m := l.Model(); !reflect.DeepEqual(m, []api.Atom{atom("p", number(1)), plain}) {
		t.Errorf("A2, K3: %v", m)
	}
	if e, f := l.Remove(atom("q", api.Term{Kind: 1, Num: 1, Text: "other"}, name("a"))), l.Remove(junk); e != api.OK || f != api.ErrNone {
		t.Errorf("B1, K2: %d, %d", e, f)
	}
}

func TestTwoShareNothing(t *testing.T) {
	const s = "p(X) :- q(X), !r(X)."
	a, b := made(t, s), made(t, s)
	for _, c := range []struct{ a, b, ofA, ofB, newsA, newsB string }{
		{"+q(1)", "+q(2)", "p(1) q(1)", "p(2) q(2)", "p(1) q(1) / ", "p(2) q(2) / "},
		{"+r(1)", "+q(1)", "q(1) r(1)", "p(1) p(2) q(1) q(2)", "r(1) / p(1)", "p(1) q(1) / "},
		{"-q(1)", "-q(2)", "r(1)", "p(1) q(1)", " / q(1)", " / p(2) q(2)"},
	} {
		if e, f := change(t, a, c.a), change(t, b, c.b); e != api.OK || f != api.OK {
			t.Errorf("K2: %s: %d, %s: %d", c.a, e, c.b, f)
		}
		if shown(a.Model()) != c.ofA || shown(b.Model()) != c.ofB || news(a) != c.newsA || news(b) != c.newsB {
			t.Errorf("K1: %s, %s, %s, %s, want %v", shown(a.Model()), shown(b.Model()), news(a), news(b), c)
		}
	}
}

// spoil changes all that was answered.
func spoil(l []api.Atom) {
	for i := range l {
		for k := range l[i].Terms {
			l[i].Terms[k] = name("gone")
		}
		_ = append(l[i].Terms, name("gone"))
		l[i].Name = "gone"
	}
	_ = append(l, atom("gone"))
}

func TestNothingIsSharedOrChanged(t *testing.T) {
	l := made(t, "p(X,X) :- q(X,Y), !r(X). q(7,8).")
	all := func() string { return shown(l.Given()) + " | " + shown(l.Model()) + " | " + news(l) }
	check := func(want string) {
		t.Helper()
		if got := all(); got != want {
			t.Errorf("G4: %s, want %s", got, want)
		}
		came, gone := l.News()
		for _, list := range [][]api.Atom{l.Given(), l.Model(), came, gone} {
			for i := range list {
				spoil(list[i : i+1 : i+1])
				for _, other := range list[i+1:] {
					if strings.Contains(text.Show(other), "gone") {
						t.Errorf("G4: %s shares memory", text.Show(other))
					}
				}
			}
			spoil(list)
		}
		if got := all(); got != want {
			t.Errorf("G4: %s, want %s", got, want)
		}
	}
	check(" | p(7,7) q(7,8) | p(7,7) q(7,8) / ")
	a := atom("q", number(1), number(2))
	if e := l.Add(a); e != api.OK || text.Show(a) != "q(1,2)" {
		t.Errorf("G4: %d, %s", e, text.Show(a))
	}
	spoil([]api.Atom{a})
	check("q(1,2) | p(1,1) p(7,7) q(1,2) q(7,8) | p(1,1) q(1,2) / ")
	a = atom("r", number(1))
	l.Add(a)
	spoil([]api.Atom{a})
	check("q(1,2) r(1) | p(7,7) q(1,2) q(7,8) r(1) | r(1) / p(1,1)")
	a = atom("q", number(1), number(2))
	if e := l.Remove(a); e != api.OK || text.Show(a) != "q(1,2)" {
		t.Errorf("G4: %d, %s", e, text.Show(a))
	}
	spoil([]api.Atom{a})
	check("r(1) | p(7,7) q(7,8) r(1) |  / q(1,2)")
}

// A model is made when it is asked for, and not again till something changes.
func TestModelsWait(t *testing.T) {
	l := made(t, "r(X,Y) :- e(X,Y). r(X,Z) :- r(X,Y), r(Y,Z).")
	for i := range 20000 {
		if e := l.Add(atom("e", number(i*7919%20000), number(i*7919%20000+1))); e != api.OK {
			t.Fatalf("K2: %d", e)
		}
		if l.now != nil || l.ahead != nil {
			t.Fatal("a model is made that nobody asked for")
		}
	}
	for i := range 19900 {
		if e := l.Remove(atom("e", number(i+50), number(i+51))); e != api.OK {
			t.Fatalf("K2: %d", e)
		}
	}
	if g, m := len(l.Given()), len(l.Model()); g != 100 || m != 100+2*50*51/2 || l.ahead != nil {
		t.Errorf("K3: %d are given, %d in the model", g, m)
	}
	now := l.now
	l.Add(atom("e", number(50)))
	if l.Model(); l.now != now {
		t.Error("the model is made twice")
	}
	l.Add(atom("other"))
	if l.now != nil || l.ahead != now {
		t.Error("the model ahead of the change is not that of the last one")
	}
	if n := news(l); n != "other / " || l.ahead != now {
		t.Errorf("K3: %s", n)
	}
}
