package rows

import (
	"errors"
	"math"
	"reflect"
	"strconv"
	"strings"
	"testing"

	"lore/api"
	"lore/text"
)

func number(n int) api.Term       { return api.Term{Kind: 1, Num: n} }
func name(s string) api.Term      { return api.Term{Kind: 2, Text: s} }
func quotation(s string) api.Term { return api.Term{Kind: 3, Text: s} }

func atom(name string, terms ...api.Term) api.Atom { return api.Atom{Name: name, Terms: terms} }

func numbers(n int) []api.Term {
	var l []api.Term
	for i := range n {
		l = append(l, number(i))
	}
	return l
}

func TestFact(t *testing.T) {
	for _, a := range []api.Atom{
		atom("p"), atom("pQ_9z"), atom("p", number(0)), atom("p", numbers(8)...),
		atom("p", number(999999999999999999), number(-999999999999999999)),
		atom("p", name("a"), name("aB_0")), atom("p", quotation(""), quotation("\x00\n\"\\\xff")), atom("p", quotation(strings.Repeat("x", 200000))),
		atom("p", api.Term{Kind: 1, Num: 1, Text: "X"}, api.Term{Kind: 2, Num: math.MaxInt, Text: "a"}, api.Term{Kind: 3, Num: math.MaxInt}),
	} {
		if !Fact(a) {
			t.Errorf("B1: %v is a fact", a)
		}
	}
	for _, a := range []api.Atom{
		atom(""), atom("P"), atom("_p"), atom("1"), atom("p "), atom(" p"), atom("p.q"), atom("pé"), atom("p\n"), atom("p", numbers(9)...),
		atom("p", number(1000000000000000000)), atom("p", number(-1000000000000000000)), atom("p", number(math.MinInt)), atom("p", number(math.MaxInt)),
		atom("p", name("")), atom("p", name("X")), atom("p", name("a b")), atom("p", name("1")), atom("p", name("a-")),
		atom("p", api.Term{Text: "X"}), atom("p", api.Term{Text: "a"}), atom("p", api.Term{Kind: 4, Text: "a"}), atom("p", api.Term{Kind: -1, Text: "a"}),
		atom("p", number(1), api.Term{}),
	} {
		if Fact(a) {
			t.Errorf("B1: %v is no fact", a)
		}
	}
}

func TestParse(t *testing.T) {
	for _, c := range []struct {
		s    string
		want []api.Atom
	}{
		{"", nil},
		{"p\n", []api.Atom{atom("p")}},
		{"q\nb\np\nb\na\n", []api.Atom{atom("a"), atom("b"), atom("p"), atom("q")}},
		{"p\t2\np\ta\np\t-1\np\t\"a\"\np\np\t1\t1\np\t10\n", []api.Atom{atom("p"), atom("p", number(-1)), atom("p", number(2)), atom("p", number(10)),
			atom("p", name("a")), atom("p", quotation("a")), atom("p", number(1), number(1))}},
		{"p\t007\np\t7\np\t-0\np\t0\n", []api.Atom{atom("p", number(0)), atom("p", number(7))}},
		{"p\t999999999999999999\t-999999999999999999\n", []api.Atom{atom("p", number(999999999999999999), number(-999999999999999999))}},
		{"p\t0\t1\t2\t3\t4\t5\t6\t7\n", []api.Atom{atom("p", numbers(8)...)}},
		{"p\t\"\\\"\\\\\\n\t%\xff\"\taB_1\n", []api.Atom{atom("p", quotation("\"\\\n\t%\xff"), name("aB_1"))}},
	} {
		if l, e, place := Parse(c.s); e != api.OK || place != 0 || !reflect.DeepEqual(l, c.want) {
			t.Errorf("B2: Parse(%q) = %v, %d, %d, want %v", c.s, l, e, place, c.want)
		}
	}
}

// split is a text in two parts: what is wrong has its place where the second one begins.
type split struct{ ahead, from string }

func (w split) refused(t *testing.T, want api.Errno) {
	t.Helper()
	l, e, place := Parse(w.ahead + w.from)
	if l != nil || e != want || place != len(w.ahead) {
		t.Errorf("B2: Parse(%q) = %v, %d, %d, want %d, %d", w.ahead+w.from, l, e, place, want, len(w.ahead))
	}
}

const (
	eight    = "p\t1\t2\t3\t4\t5\t6\t7\t8\t" // a ninth term may not come
	nineteen = "1234567890123456789"
)

func TestParseWrongForm(t *testing.T) {
	for _, s := range []string{"p", "p\t", "p\t1", "p\t1\t", "p\ta", "p\t\"", "p\t\"a", "p\t\"a\\", "p\t\"a\"", "p\nq", "p\nq\t1", eight} {
		split{s, ""}.refused(t, api.ErrForm)
	}
	for _, w := range []split{
		{"", "\n"}, {"", "P\n"}, {"", "1\n"}, {"", "_p\n"}, {"", " p\n"}, {"", "\tp\n"}, {"", "\"p\"\n"}, {"", "%\n"}, {"p\n", "\n"}, {"p\n", "Pq\n"},
		{"p", " 1\n"}, {"p", "(1)\n"}, {"p", ".\n"}, {"p", "\r\n"}, {"p", " \n"}, {"p", "%\n"}, {"p", "\xff\n"},
		{"p\t", "\n"}, {"p\t", "\t1\n"}, {"p\t", " 1\n"}, {"p\t", "X\n"}, {"p\t", "Xyz\n"}, {"p\t", "_\n"}, {"p\t", "-\n"}, {"p\t", "-"}, {"p\t", "--1\n"}, {"p\t", "-a\n"}, {"p\t", "%\n"},
		{"p\t1", "a\n"}, {"p\t1", "-\n"}, {"p\t1", " \n"}, {"p\t1", "\r\n"}, {"p\ta", ",b\n"}, {"p\t\"a\"", "b\n"}, {"p\t\"a\"", "\"b\"\n"}, {"p\t1\t", "\n"}, {"p\t1\t", "X\n"},
		{"p\t\"a", "\n\"\n"}, {"p\t\"a\\", "x\"\n"}, {"p\t\"\\", "\n\"\n"}, {"p\t\"\\", "\t\"\n"},
	} {
		w.refused(t, api.ErrForm)
	}
}

func TestParseBounds(t *testing.T) {
	for _, w := range []split{{"p\t", nineteen + "\n"}, {"p\t", "-" + nineteen}, {"p\t", "0000000000000000000\n"}, {"p\t1\t", nineteen + "a\n"}, {"p\nq\t", nineteen + "\nP"}} {
		w.refused(t, api.ErrRange)
	}
	for _, w := range []split{{eight, "9\n"}, {eight, "a\n"}, {eight, "\"a\"\n"}, {eight, "9\t10\n"}, {eight, "9"}, {eight, "\"a\\x"}, {eight, "\"\n"}, {"p\n" + eight, "9\nq\t" + nineteen}} {
		w.refused(t, api.ErrMany)
	}
	// At one place the error that is named first is the answer.
	split{eight, nineteen + "\n"}.refused(t, api.ErrRange)
	for _, from := range []string{"\n", "X\n", "-\n"} {
		split{eight, from}.refused(t, api.ErrForm)
	}
}

func TestMaxRows(t *testing.T) {
	s := strings.Repeat("p\n", 50000)
	if l, e, _ := Parse(s); e != api.OK || len(l) != 1 {
		t.Errorf("B2: 100000 bytes: %v, %d", l, e)
	}
	split{"", s + "p"}.refused(t, api.ErrLong)
	split{"", "P" + s}.refused(t, api.ErrLong)
	split{"", "P" + s[1:]}.refused(t, api.ErrForm)
	long := "p\t\"" + strings.Repeat("x", 99995) + "\"\n"
	if l, e, _ := Parse(long); e != api.OK || len(l) != 1 || len(l[0].Terms[0].Text) != 99995 {
		t.Errorf("B2: a long string: %d", e)
	}
}

// What is wrong in a line is an error that is asked for its place.
func TestWrongIsAnError(t *testing.T) {
	_, _, err := readLine("p\tX\n", 0)
	var w wrong
	if !errors.As(err, &w) || w != (wrong{api.ErrForm, 2}) || err.Error() != "error 2 at byte 2" {
		t.Errorf("B2: %v", err)
	}
}

func TestPrint(t *testing.T) {
	for _, c := range []struct {
		l    []api.Atom
		want string
	}{
		{nil, ""},
		{[]api.Atom{}, ""},
		{[]api.Atom{atom("q", name("a")), atom("p"), atom("q", number(-7)), atom("p")}, "p\nq\t-7\nq\ta\n"},
		{[]api.Atom{atom("p", quotation("\"\\\n\t\xff"), number(0))}, "p\t\"\\\"\\\\\\n\t\xff\"\t0\n"},
		{[]api.Atom{atom("p", api.Term{Kind: 1, Num: 1, Text: "x"}), atom("p", number(1))}, "p\t1\n"},
	} {
		if s, e, place := Print(c.l); s != c.want || e != api.OK || place != 0 {
			t.Errorf("B3: Print(%v) = %q, %d, %d, want %q", c.l, s, e, place, c.want)
		}
	}
}

func TestPrintRefusesTheFirstThatIsNoFact(t *testing.T) {
	wrongs := []api.Atom{atom("P"), atom(""), atom("p", api.Term{Text: "X"}), atom("p", numbers(9)...), atom("p", number(math.MaxInt))}
	for at := range 4 {
		for _, a := range wrongs {
			l := []api.Atom{atom("z"), atom("y"), atom("x"), atom("a"), atom("Q")}
			l[at] = a
			if s, e, place := Print(l); s != "" || e != api.ErrFact || place != at {
				t.Errorf("B3: Print(%v) = %q, %d, %d, want %d, %d", l, s, e, place, api.ErrFact, at)
			}
		}
	}
}

func TestPrintedIsReadAsTheSame(t *testing.T) {
	l := some()
	s, e, _ := Print(l)
	again, e2, place := Parse(s)
	if e != api.OK || e2 != api.OK || place != 0 || !reflect.DeepEqual(again, Union(l, nil)) {
		t.Errorf("B2, B3: %q, %d, %d, %d", s, e, e2, place)
	}
}

// some is a list of facts, in no order, some of them twice.
func some() []api.Atom {
	var l []api.Atom
	for i := range 400 {
		n := i * 7919 % 211
		terms := []api.Term{number(n - 100), name("n" + strconv.Itoa(n%13)), quotation("\"\\\n"[n%3:] + strconv.Itoa(n))}
		l = append(l, atom("pqr"[n%3:], terms[n%4%3:]...))
	}
	return l
}

func isRising(l []api.Atom) bool {
	for i := range l {
		if i > 0 && text.Order(l[i-1], l[i]) >= 0 {
			return false
		}
	}
	return true
}

func count(l []api.Atom, a api.Atom) int {
	n := 0
	for _, x := range l {
		if text.Order(x, a) == 0 {
			n++
		}
	}
	return n
}

func TestUnionAndLess(t *testing.T) {
	all := some()
	all = append(all, api.Atom{Name: "X y", Terms: []api.Term{{Kind: 7, Text: "z"}, {Text: "X"}}}, api.Atom{})
	a, b := all[:300], all[200:]
	u, d := Union(a, b), Less(a, b)
	if !isRising(u) || !isRising(d) {
		t.Fatalf("B4: not in order: %v, %v", u, d)
	}
	for _, x := range all {
		inA, inB := count(a, x) > 0, count(b, x) > 0
		if (count(u, x) == 1) != (inA || inB) || (count(d, x) == 1) != (inA && !inB) {
			t.Errorf("B4: %v is in a: %t, in b: %t", x, inA, inB)
		}
		if Has(a, x) != inA || Has(b, x) != inB || Has(d, x) != (inA && !inB) {
			t.Errorf("B4: Has of %v", x)
		}
	}
	for _, x := range append(u, d...) {
		if count(all, x) == 0 {
			t.Errorf("B4: %v comes from nowhere", x)
		}
	}
}

func TestEmptyLists(t *testing.T) {
	l := []api.Atom{atom("q"), atom("p")}
	want := []api.Atom{atom("p"), atom("q")}
	if len(Union(nil, nil)) != 0 || len(Less(nil, l)) != 0 || len(Less(l, l)) != 0 || Has(nil, atom("p")) || Has(l, api.Atom{}) {
		t.Errorf("B4: nothing has something")
	}
	for _, got := range [][]api.Atom{Union(l, nil), Union(nil, l), Union(l, l), Less(l, nil), Less(l, []api.Atom{{}})} {
		if !reflect.DeepEqual(got, want) {
			t.Errorf("B4: %v, want %v", got, want)
		}
	}
}

// Of a term only what its Kind tells matters.
func TestSameness(t *testing.T) {
	a, b := atom("p", api.Term{Kind: 1, Num: 1, Text: "a"}, api.Term{Kind: 2, Num: 1, Text: "a"}), atom("p", number(1), name("a"))
	other := []api.Atom{atom("p", number(2), name("a")), atom("p", number(1), name("b")), atom("p", number(1), quotation("a")), atom("p", number(1)), atom("q", number(1), name("a"))}
	if len(Union([]api.Atom{a}, []api.Atom{b})) != 1 || len(Less([]api.Atom{a}, []api.Atom{b})) != 0 || !Has([]api.Atom{a}, b) {
		t.Errorf("B1, B4: %v and %v are the same", a, b)
	}
	if Has(other, a) || len(Union(other, []api.Atom{a, b})) != 6 || len(Less([]api.Atom{a}, other)) != 1 {
		t.Errorf("B1, B4: %v is none of %v", a, other)
	}
}

// G4: nothing that is handed in changes or is shared, and no two lists of an answer are.
func TestNothingIsSharedOrChanged(t *testing.T) {
	terms := numbers(2)
	list := func() []api.Atom { return []api.Atom{atom("q", terms...), atom("p", terms...), atom("q", terms...)} }
	calls := map[string]func(a []api.Atom) []api.Atom{
		"Union": func(a []api.Atom) []api.Atom { return Union(a, a) },
		"Less":  func(a []api.Atom) []api.Atom { return Less(a, a[:0]) },
	}
	for call, f := range calls {
		a := list()
		got := f(a)
		if !reflect.DeepEqual(a, list()) {
			t.Errorf("G4: %s changed its list: %v", call, a)
		}
		got[0].Terms[0].Num = 9
		got[1].Name = "z"
		if terms[0].Num != 0 || got[1].Terms[0].Num != 0 || !reflect.DeepEqual(a, list()) {
			t.Errorf("G4: %s shares memory: %v, %v", call, got, a)
		}
	}
	a := list()
	if Print(a); !reflect.DeepEqual(a, list()) {
		t.Errorf("G4: Print changed its list: %v", a)
	}
}

// G1: no text makes a call panic, whatever its bytes.
func TestEveryByteEverywhere(t *testing.T) {
	const s = "p\t-1\ta\t\"a\\n\"\nq\t2\n"
	for i := range len(s) {
		for c := range 256 {
			l, e, place := Parse(s[:i] + string([]byte{byte(c)}) + s[i+1:])
			if e == api.OK && place != 0 || e != api.OK && l != nil || place > len(s) {
				t.Errorf("B2: byte %d as %d: %v, %d, %d", i, c, l, e, place)
			}
		}
	}
}
