package text

import (
	"math"
	"reflect"
	"strings"
	"testing"

	"lore/api"
)

func variable(s string) api.Term  { return api.Term{Kind: 0, Text: s} }
func number(n int) api.Term       { return api.Term{Kind: 1, Num: n} }
func name(s string) api.Term      { return api.Term{Kind: 2, Text: s} }
func quotation(s string) api.Term { return api.Term{Kind: 3, Text: s} }

func atom(name string, terms ...api.Term) api.Atom { return api.Atom{Name: name, Terms: terms} }

func fact(name string, terms ...api.Term) api.Program {
	return api.Program{Clauses: []api.Clause{{Head: atom(name, terms...)}}}
}

func rule(body ...api.Literal) api.Program {
	return api.Program{Clauses: []api.Clause{{Head: atom("p"), Body: body}}}
}

func holds(name string, terms ...api.Term) api.Literal {
	return api.Literal{Atom: atom(name, terms...)}
}

func denied(name string, terms ...api.Term) api.Literal {
	return api.Literal{Not: true, Atom: atom(name, terms...)}
}

func compared(left api.Term, op string, right api.Term) api.Literal {
	return api.Literal{Op: op, Left: left, Right: right}
}

func TestParseReadsTerms(t *testing.T) {
	const most = 999999999999999999
	for _, c := range []struct {
		s    string
		want []api.Term
	}{
		{"p(X,Xy_1,A9b).", []api.Term{variable("X"), variable("Xy_1"), variable("A9b")}},
		{"p(a,aB_2,z0).", []api.Term{name("a"), name("aB_2"), name("z0")}},
		{"p(0,-0,7,-7,007,-007).", []api.Term{number(0), number(0), number(7), number(-7), number(7), number(-7)}},
		{"p(999999999999999999,-999999999999999999).", []api.Term{number(most), number(-most)}},
		{"p(000000000000000001,-000000000000000000).", []api.Term{number(1), number(0)}},
		{"p(1,2,3,4,5,6,7,8).", []api.Term{number(1), number(2), number(3), number(4), number(5), number(6), number(7), number(8)}},
		{`p("","a b","\"","\\","\n","\\n").`, []api.Term{quotation(""), quotation("a b"), quotation(`"`), quotation(`\`), quotation("\n"), quotation(`\n`)}},
		{"p(\"% ,).\t\r\x00\xff é\").", []api.Term{quotation("% ,).\t\r\x00\xff é")}},
	} {
		p, e, place := Parse(c.s)
		if e != api.OK || place != 0 || !reflect.DeepEqual(p, fact("p", c.want...)) {
			t.Errorf("A2: Parse(%q) = %v, %d, %d, want %v", c.s, p, e, place, c.want)
		}
	}
}

func TestParseReadsPrograms(t *testing.T) {
	x, one := variable("X"), number(1)
	for _, c := range []struct {
		s    string
		want api.Program
	}{
		{"", api.Program{}},
		{" \t\n% only a remark", api.Program{}},
		{"p.", fact("p")},
		{"pQ_9z.", fact("pQ_9z")},
		{"\tp \n( 1\t, X ) .\n", fact("p", one, x)},
		{"%.\np%(\n(%,\n1%)\n)%\n.%", fact("p", one)},
		{"p:-q.", rule(holds("q"))},
		{"p :- q , r(1) .", rule(holds("q"), holds("r", one))},
		{"p:-!q,! r ( X ) .", rule(denied("q"), denied("r", x))},
		{"p:-X=1,X!=1,X<1,X<=1,X>1,X>=1.", rule(compared(x, "=", one), compared(x, "!=", one), compared(x, "<", one),
			compared(x, "<=", one), compared(x, ">", one), compared(x, ">=", one))},
		{"p:-a=b,a%(\n!=b,q,q.", rule(compared(name("a"), "=", name("b")), compared(name("a"), "!=", name("b")), holds("q"), holds("q"))},
		{`p:--1<-2,"a">="b".`, rule(compared(number(-1), "<", number(-2)), compared(quotation("a"), ">=", quotation("b")))},
		{"?-q.", api.Program{Queries: [][]api.Literal{{holds("q")}}}},
		{"?- q, X<1. p. ?- !r. q.", api.Program{
			Clauses: []api.Clause{{Head: atom("p")}, {Head: atom("q")}},
			Queries: [][]api.Literal{{holds("q"), compared(x, "<", one)}, {denied("r")}},
		}},
	} {
		if p, e, place := Parse(c.s); e != api.OK || place != 0 || !reflect.DeepEqual(p, c.want) {
			t.Errorf("A1, A2: Parse(%q) = %v, %d, %d, want %v", c.s, p, e, place, c.want)
		}
	}
}

// split is a text in two parts: what is wrong has its place where the second one begins.
type split struct{ ahead, from string }

func (w split) refused(t *testing.T, want api.Errno) {
	t.Helper()
	refused(t, w.ahead+w.from, want, len(w.ahead))
}

func refused(t *testing.T, s string, want api.Errno, at int) {
	t.Helper()
	if p, e, place := Parse(s); e != want || place != at || p.Clauses != nil || p.Queries != nil {
		t.Errorf("A1: Parse(%q) = %v, %d, %d, want %d, %d", s, p, e, place, want, at)
	}
	if plain, e, place := Print(s); e != want || place != at || plain != "" {
		t.Errorf("A3: Print(%q) = %q, %d, %d, want %d, %d", s, plain, e, place, want, at)
	}
}

const (
	eight    = "p(1,2,3,4,5,6,7,8," // a ninth term may not come
	nineteen = "1234567890123456789"
)

func TestTextsThatEndTooEarly(t *testing.T) {
	for _, s := range []string{
		"p", "p(", "p(1", "p(1,", "p(1)", "p:-", "p:-q", "p:-q,", "p:-q(1", "p:-!", "p:-X", "p:-X=", "p:-X=1", "p:-a", "p:-a=",
		"?-", "?-q", "?-q,", "?-X<", "p. q", "p:-q. p(", "p \n\t", "p % a remark.", "p%\n", "p:-q %",
		`p("`, `p("a`, `p("a).`, `p("\`, `p("a\"`, `p("a\\\`, `p:-"a`, eight,
	} {
		refused(t, s, api.ErrForm, len(s))
	}
}

func TestSignsThatCannotStand(t *testing.T) {
	for _, w := range []split{
		{"", "P."}, {"", "1."}, {"", "-1."}, {"", `"p".`}, {"", "_p."}, {"", "."}, {"", ":-p."}, {"", "!p."}, {"", "(p)."}, {"", ",p."}, {"", "=p."},
		{"p ", "q."}, {"p ", "Qqq."}, {"p ", `"abc".`}, {"p ", "12."}, {"p", ",q."}, {"p", "=q."}, {"p", "?-q."}, {"p", "!q."}, {"p", ")."}, {"p", "-q."},
		{"p.", "."}, {"p. ", "1."}, {"p(1)", "(2)."}, {"p", "\r."}, {"p", "\x00."}, {"p", "\x80."}, {"p", "é."},
		{"p(", ")."}, {"p(", ",1)."}, {"p(1,", ")."}, {"p(1,", ",2)."}, {"p(1 ", "2)."}, {"p(1", "a)."}, {"p(1", "-2)."}, {"p(1", "_)."}, {"p(1", "."},
		{"p(a", "(b))."}, {"p(a", "=b)."}, {"p(a", `"b").`}, {"p(", "_)."}, {"p(", "!a)."}, {"p(", "(a))."}, {"p(", "é)."}, {"p(", "\xff)."},
		{"p:-", "."}, {"p:-", ":-q."}, {"p:-q", ":-r."}, {"p:-q,", "."}, {"p:-q,", ",r."}, {"p:-q ", "r."}, {"p:-q", "!r."}, {"p:-q", "?-r."},
		{"?-", "?-q."}, {"?-p", ":-q."}, {"?-", "."}, {"?-p", ")."},
	} {
		w.refused(t, api.ErrForm)
	}
}

func TestLiteralsThatCannotStand(t *testing.T) {
	for _, w := range []split{
		{"p:-X", "."}, {"p:-X", "(1)."}, {"p:-X", ",q."}, {"p:-1", ",q."}, {`p:-"a"`, "."}, {"p:-X ", "Y."}, {"p:-X", ")."}, {"p:-X", "!q."},
		{"p:-!", "X=1."}, {"p:-!", "1=1."}, {"p:-!", `"a"=1.`}, {"p:-!", "!q."}, {"p:-!", "(q)."}, {"p:-!a", "=b."}, {"p:-q(1)", "=2."}, {"p:-q(1)", "!=2."},
		{"p:-X=", "=1."}, {"p:-X=", "<1."}, {"p:-X<", ">1."}, {"p:-X=", "."}, {"p:-X=", "!q."}, {"p:-X=q", "(1)."}, {"p:-X=Y", "=Z."},
	} {
		w.refused(t, api.ErrForm)
	}
}

// Signs of two bytes are one sign wherever they stand; a part of one that is no sign has its own first byte as place.
func TestSignsOfTwoBytes(t *testing.T) {
	for _, w := range []split{
		{"p", ": -q."}, {"p", ":q."}, {"p", ":"}, {"p:-q", ":"}, {"", "? -q."}, {"", "?q."}, {"", "?"}, {"p. ", "?"},
		{"p:-", "!=q."}, {"p:-!", "!=q."}, {"p:-X", "! =1."}, {"p:-X< ", "=1."}, {"p:-X> ", "=1."}, {"p:-X<=", "=1."}, {"p:-X=", "!=1."},
	} {
		w.refused(t, api.ErrForm)
	}
}

func TestWrongNumbersAndStrings(t *testing.T) {
	for _, w := range []split{
		{"p(", "-)."}, {"p(", "-"}, {"p(", "- 1)."}, {"p(", "--1)."}, {"p(", "-a)."}, {"p:-", "-."}, {"p:-X<", "-."}, {"p(1,", "-,2)."},
		{"p(\"a", "\n\")."}, {"p(\"", "\n"}, {`p("a\`, `x").`}, {`p("\`, `t").`}, {`p("\`, `N").`}, {"p(\"\\", "\n\")."}, {`p("\n\"\\\`, `0").`},
		{`p:-X="a\`, `'".`}, {"p:-X=\"a", "\n\"."},
		{"", `"a\x".`}, {"p ", "\"a\n\"."}, {"p", `"`}, {"p:-!", `"a`},
	} {
		w.refused(t, api.ErrForm)
	}
	for _, w := range []split{
		{"p(", nineteen + ")."}, {"p(", "-" + nineteen + ")."}, {"p(", "0000000000000000000)."}, {"p(", "-0000000000000000001)."}, {"p(1,", nineteen},
		{"p(", nineteen + "a)."}, {"p:-", nineteen + "<X."}, {"p:-X<", nineteen + "."}, {"?- X = ", "-" + nineteen}, {"p(", strings.Repeat("9", 3000)},
	} {
		w.refused(t, api.ErrRange)
	}
}

func TestTooManyTerms(t *testing.T) {
	for _, w := range []split{
		{eight, "9)."}, {eight, "X)."}, {eight, "a)."}, {eight, `"a").`}, {eight, "9,10)."}, {eight, "9"}, {"q:-" + eight, "9)."}, {"q:-!" + eight, "9)."}, {"?-" + eight + " ", "9)."},
		// What is wrong within the ninth term is further right.
		{eight, "\"a\n"}, {eight, `"a\x`}, {eight, `"`},
	} {
		w.refused(t, api.ErrMany)
	}
	// At one place the error that is named first is the answer.
	split{eight, nineteen + ")."}.refused(t, api.ErrRange)
	split{eight, ")."}.refused(t, api.ErrForm)
	split{eight, "-)."}.refused(t, api.ErrForm)
	split{"p ", nineteen + "."}.refused(t, api.ErrForm)
}

func TestTheFirstFromTheLeft(t *testing.T) {
	split{"p(", nineteen + "). " + eight + "9). P"}.refused(t, api.ErrRange)
	split{eight, "9). p(" + nineteen + "). P"}.refused(t, api.ErrMany)
	split{"p. ", "P. p(" + nineteen + "). " + eight + "9)."}.refused(t, api.ErrForm)
}

func TestMaxText(t *testing.T) {
	blanks := strings.Repeat(" ", 3998)
	if p, e, _ := Parse(blanks + "p."); e != api.OK || len(p.Clauses) != 1 {
		t.Errorf("A1: 4000 bytes: %v, %d", p, e)
	}
	refused(t, blanks+" p.", api.ErrLong, 0)
	refused(t, "P"+blanks+"  ", api.ErrLong, 0)
	refused(t, "P"+blanks+" ", api.ErrForm, 0)
	refused(t, strings.Repeat("p.", 1<<20), api.ErrLong, 0)
}

func TestPrint(t *testing.T) {
	for _, c := range []struct{ s, want string }{
		{"", ""},
		{"%", ""},
		{"p.q.", "p.\nq.\n"},
		{"p ( X ,1,a ) :-q ,! r(Y), X\t< 2.", "p(X,1,a) :- q, !r(Y), X<2.\n"},
		{"?-p.p:-q.?-q,r.", "?- p.\np :- q.\n?- q, r.\n"},
		{"p(-0,-000,007,-007,0).", "p(0,0,7,-7,0).\n"},
		{"p(-999999999999999999).", "p(-999999999999999999).\n"},
		{`p("\"\\\n","").`, `p("\"\\\n","").` + "\n"},
		{"p(\"a\t\x00\xff é%\").", "p(\"a\t\x00\xff é%\").\n"},
		{"p:-a = b,X!= Y,1 <=2,\"a\"> \"b\",X>= -1,X<Y.", "p :- a=b, X!=Y, 1<=2, \"a\">\"b\", X>=-1, X<Y.\n"},
	} {
		if plain, e, place := Print(c.s); plain != c.want || e != api.OK || place != 0 {
			t.Errorf("A3: Print(%q) = %q, %d, %d, want %q", c.s, plain, e, place, c.want)
		}
	}
}

func TestShow(t *testing.T) {
	for _, c := range []struct {
		a    api.Atom
		want string
	}{
		{atom("p"), "p"},
		{api.Atom{Name: "p", Terms: []api.Term{}}, "p"},
		{atom("p", variable("X"), number(-7), name("a"), quotation("\"\\\n\t")), "p(X,-7,a,\"\\\"\\\\\\n\t\")"},
		{atom("", api.Term{Kind: 4, Text: "\"\n"}, api.Term{Kind: -1, Num: 5, Text: "y"}), "(\"\n,y)"},
		{atom("P q", number(math.MinInt), number(math.MaxInt)), "P q(-9223372036854775808,9223372036854775807)"},
		{atom("p", make([]api.Term, 9)...), "p(,,,,,,,,)"},
		{atom("p", api.Term{Kind: 1, Num: 1, Text: "x"}, api.Term{Kind: 2, Num: 1, Text: "x"}), "p(1,x)"},
	} {
		if s := Show(c.a); s != c.want {
			t.Errorf("A3: Show(%v) = %q, want %q", c.a, s, c.want)
		}
	}
}

func TestOrder(t *testing.T) {
	rising := []api.Atom{
		atom(""), atom("P"), atom("p"),
		atom("p", api.Term{Kind: -1, Text: "z"}),
		atom("p", variable("")), atom("p", variable("X")), atom("p", variable("Y")),
		atom("p", number(math.MinInt)), atom("p", number(-10)), atom("p", number(-9)), atom("p", number(9)), atom("p", number(10)), atom("p", number(math.MaxInt)),
		atom("p", name("a")), atom("p", name("ab")), atom("p", name("b")),
		atom("p", quotation("")), atom("p", quotation("A")), atom("p", quotation("\x7f")), atom("p", quotation("\xff")),
		atom("p", api.Term{Kind: 4, Text: "a"}), atom("p", api.Term{Kind: 4, Text: "b"}),
		atom("p", number(0), number(1)), atom("p", number(0), number(2)), atom("p", number(1), number(0)),
		atom("p", make([]api.Term, 9)...),
		atom("p0"), atom("pa"), atom("q"), atom("\xff"),
	}
	for i, a := range rising {
		for k, b := range rising {
			want := 0
			if i < k {
				want = -1
			} else if i > k {
				want = 1
			}
			if got := Order(a, b); got != want {
				t.Errorf("A4: Order(%v, %v) = %d, want %d", a, b, got, want)
			}
		}
	}
}

func TestOrderLooksAtWhatTheKindTells(t *testing.T) {
	for kind := -1; kind <= 4; kind++ {
		a, b := api.Term{Kind: kind, Num: 1, Text: "a"}, api.Term{Kind: kind, Num: 2, Text: "a"}
		if kind == 1 {
			b = api.Term{Kind: kind, Num: 1, Text: "b"}
		}
		if Order(atom("p", a), atom("p", b)) != 0 || Order(atom("p", b), atom("p", a)) != 0 {
			t.Errorf("A4: %v and %v differ in what their Kind does not tell", a, b)
		}
	}
	if Order(api.Atom{Name: "p"}, api.Atom{Name: "p", Terms: []api.Term{}}) != 0 {
		t.Errorf("A4: no Terms and nil")
	}
}

// every calls f with all texts of at most that many of the bytes, behind each of some beginnings.
func every(most int, f func(s string)) {
	const alphabet = "pX1-\"\\\n %(),.:?!=<"
	var grow func(s string, left int)
	grow = func(s string, left int) {
		f(s)
		for i := 0; left > 0 && i < len(alphabet); i++ {
			grow(s+alphabet[i:i+1], left-1)
		}
	}
	for _, s := range []string{"", "p(", "p:-", "?-X", "p:-a", `p("`, eight} {
		grow(s, most)
	}
}

// The plain form is read as what it was made of, and is its own plain form.
func TestPlainFormIsReadAsTheSame(t *testing.T) {
	every(4, func(s string) {
		plain, e, _ := Print(s)
		if e != api.OK {
			return
		}
		p, _, _ := Parse(s)
		again, _, _ := Parse(plain)
		if twice, _, _ := Print(plain); twice != plain || !reflect.DeepEqual(p, again) {
			t.Fatalf("A3: Print(%q) = %q, %v and %v", s, plain, p, again)
		}
	})
}

// What stands ahead of the first thing that is wrong is right, as far as it goes.
func TestNothingIsWrongAheadOfThePlace(t *testing.T) {
	every(4, func(s string) {
		_, e, place := Parse(s)
		if place < 0 || place > len(s) || e == api.OK && place != 0 {
			t.Fatalf("A1: Parse(%q): %d, %d", s, e, place)
		}
		if _, e, at := Parse(s[:place]); e != api.OK && (e != api.ErrForm || at != place) {
			t.Fatalf("A1: Parse(%q) has its place %d, but %q has %d, %d", s, place, s[:place], e, at)
		}
	})
}

// G1: no text makes a call panic, whatever its bytes.
func TestEveryByteEverywhere(t *testing.T) {
	const s = "p(X,-1,a) :- q(\"a\\n\"), !r, X<=1. % z\n?- X!=2."
	for i := range len(s) {
		for c := range 256 {
			_, e, place := Parse(s[:i] + string([]byte{byte(c)}) + s[i+1:])
			if e == api.OK && place != 0 || place > len(s) {
				t.Errorf("A1: byte %d as %d: %d, %d", i, c, e, place)
			}
		}
	}
}

// G4: two answers share no memory, and no two lists of one do.
func TestAnswersShareNothing(t *testing.T) {
	const s = "p(1):-q(1),q(1). p(1). ?-q(1). ?-q(1)."
	p, _, _ := Parse(s)
	again, _, _ := Parse(s)
	p.Clauses[0].Head.Terms[0].Num = 2
	p.Clauses[0].Body[0].Atom.Terms[0].Num = 3
	p.Queries[0][0].Atom.Terms[0].Num = 4
	if p.Clauses[1].Head.Terms[0].Num != 1 || p.Clauses[0].Body[1].Atom.Terms[0].Num != 1 || p.Queries[1][0].Atom.Terms[0].Num != 1 {
		t.Errorf("G4: lists of one answer share memory: %v", p)
	}
	_ = append(p.Clauses[0].Body[:1], api.Literal{Op: "="})
	_ = append(p.Queries[0], api.Literal{Op: "="})
	if third, _, _ := Parse(s); !reflect.DeepEqual(again, third) || p.Queries[1][0].Op != "" {
		t.Errorf("G4: answers share memory: %v and %v", again, third)
	}
}
