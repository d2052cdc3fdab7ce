package lore

import (
	"math"
	"runtime"
	"slices"
	"strconv"
	"strings"
	"testing"
	"time"

	"lore/api"
	"lore/live"
)

// said is a line and what it is answered.
type said struct{ line, want string }

func checkLines(t *testing.T, s string, l []said) {
	t.Helper()
	var lines []string
	for _, x := range l {
		lines = append(lines, x.line)
	}
	got, e, place := Run(s, lines)
	if len(got) != len(l) || e != api.OK || place != 0 {
		t.Fatalf("M1: %s: %q, %d, %d", s, got, e, place)
	}
	for i, x := range l {
		if got[i] != x.want {
			t.Errorf("M1: %s: line %d, %q, is answered %q, want %q", s, i, x.line, got[i], x.want)
		}
	}
}

func TestLines(t *testing.T) {
	checkLines(t, "p(X) :- q(X). ?- p(X).", []said{
		{"ADD q(1)", "OK"},
		{"ASK 0", "1\n"},
		{"IS p(2)", "NO"},
		{"ALL", "p\t1\nq\t1\n"},
	})
	checkLines(t, "r(X,Y) :- e(X,Y). r(X,Z) :- e(X,Y), r(Y,Z). top(X) :- n(X), !r(Y,X), n(Y). ?- r(X,Y), X!=Y. ?- r(1,1). ?- n(N).", []said{
		{"ALL", ""},
		{"ASK 0", ""},
		{"ASK 1", ""},
		{"ADD e(1,2)", "OK"},
		{"ADD e(2,1)", "OK"},
		{"ADD e(2,10)", "OK"},
		{"ASK 0", "1,2\n1,10\n2,1\n2,10\n"},
		{"ASK 1", "\n"},
		{"ADD e(1,2)", "ERR 10"},
		{"DROP e(2,1)", "OK"},
		{"DROP e(2,1)", "ERR 9"},
		{"DROP r(1,2)", "ERR 9"},
		{"ADD r(1,2)", "OK"},
		{"DROP e(1,2)", "OK"},
		{"IS r(1,2)", "YES"},
		{"IS e(1,2)", "NO"},
		{"ASK 1", ""},
		{"ADD e", "ERR 5"},
		{"ADD e(1)", "ERR 5"},
		{"DROP e(1)", "ERR 9"},
		{"IS e(1)", "NO"},
		{"ADD n(\"a\\\"b\\n\\\\\")", "OK"},
		{"ADD n(b)", "OK"},
		{"ADD n(-007)", "OK"},
		{"ASK 2", "-7\nb\n\"a\\\"b\\n\\\\\"\n"},
		{"ALL", "e\t2\t10\nn\t-7\nn\tb\nn\t\"a\\\"b\\n\\\\\"\nr\t1\t2\nr\t2\t10\ntop\t-7\ntop\tb\ntop\t\"a\\\"b\\n\\\\\"\n"},
	})
}

// What there is no other form for is answered by ErrForm, and changes nothing.
func TestForms(t *testing.T) {
	const s = "p(X) :- q(X). q(0). ?- p(X)."
	lines := []said{{"ADD q(1)", "OK"}}
	for _, line := range []string{
		"", " ", "  ", ".", "q(1)", "q(1).", "FOO", "FOO q(2)", "FOO 0",
		"ADD", "ADD ", "ADD  ", "DROP", "DROP ", "IS", "IS ", "ASK", "ASK ",
		"add q(2)", "Add q(2)", "ADDq(2)", "ADD\tq(2)", "ADD\nq(2)", "ADDS q(2)", " ADD q(2)", "\tADD q(2)", "\xffADD q(2)", "AD q(2)",
		"drop q(1)", "DROP\tq(1)", " DROP q(1)", "DROPq(1)", "is q(1)", "ISq(1)", " IS q(1)", "IS\tq(1)",
		"ALL ", "ALL  ", "ALL x", "ALL 0", "ALL q(1)", " ALL", "ALL\n", "ALL.", "all", "ALLS", "ALLALL",
		"ask 0", "ASK0", "ASK  0", "ASK 0 ", "ASK 0.", "ASK\t0", "ASK x", "ASK X", "ASK 0x", "ASK 0x0", "ASK -0", "ASK +0", "ASK -1", "ASK 1_0", "ASK 0 0",
		"ASK 00000", "ASK 12345", "ASK 99999999999999999999", "ASK 0\n", "ASK p(X)", "ASK \xd9\xa0", "ASK 0,0", "ASK 1e1",
	} {
		lines = append(lines, said{line, "ERR 2"})
	}
	for _, fact := range []string{
		"q(2).", "q(2) .", "q(2). q(3)", "q(2). .", ".", "q(2),q(3)", "q(2) q(3)", "q(2), ", "q(", "q(2", "q()", "q(2))", "q(2,)", "(2)", "2", "X", "X(2)", "_q(2)", "\"q\"", "!q(2)", "! q(2)",
		"q(2) :- q(1)", "q(2) :- p(1), q(1)", "q(2) :-", "q(2) :", ":- q(2)", "?- q(2)", "?- q(2). q(2)", "q(2). ?- q(2)", "q(2). p(2) :- q(2)", "1=1", "q=1", "q<q",
		"q(2) % remark", "% q(2)", "%", "% remark\n", "% remark\nq(2) % remark", "q(\"a)", "q(\"\\x\")", "q(\"a\n\")", "q(-)", "q(- 2)", "q(1.5)", "q(é)", "q\x00", "q(2);",
		"q(1234567890123456789)", "q(1,2,3,4,5,6,7,8,9)", "q(" + strings.Repeat(" ", 3996) + "2)",
	} {
		for _, word := range []string{"ADD ", "DROP ", "IS "} {
			lines = append(lines, said{word + fact, "ERR 2"})
		}
	}
	checkLines(t, s, append(lines, said{"ALL", "p\t0\np\t1\nq\t0\nq\t1\n"}))
}

func TestFacts(t *testing.T) {
	checkLines(t, "p(X) :- q(X). ?- p(X). ?- z.", []said{
		// blanks and remarks, and dots where they may stand
		{"ADD  q(1)", "OK"},
		{"ADD \t q \n ( 2 ) ", "OK"},
		{"ADD % a remark. \n q(3)", "OK"},
		{"ADD q(% 1). \n4)% remark\n", "OK"},
		{"ADD q(\"a.b. % :- \")", "OK"},
		{"ADD q(\".\")", "OK"},
		{"ADD z", "OK"},
		{"ADD \nz\t", "ERR 10"},
		{"IS q(0001)", "YES"},
		{"IS \tp( \"a.b. % :- \" )", "YES"},
		{"IS q( 1 )%.\n", "YES"},
		{"ASK 0", "1\n2\n3\n4\n\".\"\n\"a.b. % :- \"\n"},
		{"ASK 1", "\n"},
		{"DROP q(%.\n1)", "OK"},
		{"DROP  q(01)", "ERR 9"},
		{"DROP z ", "OK"},
		{"ASK 1", ""},
		// an atom with a variable
		{"ADD q(X)", "ERR 8"},
		{"DROP q(X)", "ERR 9"},
		{"IS q(X)", "NO"},
		{"ADD q(X,Y)", "ERR 8"},
		{"ADD other(1,X)", "ERR 8"},
		{"IS other(1,X)", "NO"},
		{"DROP other(1,X)", "ERR 9"},
		// Names that stand nowhere in the program
		{"ADD other", "OK"},
		{"ADD other(1,2,3,4,5,6,7,8)", "OK"},
		{"ADD other(999999999999999999)", "OK"},
		{"IS other(999999999999999999)", "YES"},
		{"IS other(1,2)", "NO"},
		{"IS nothing", "NO"},
		{"ADD q(1,2)", "ERR 5"},
		{"ADD z(1)", "ERR 5"},
		// a dot and a remark: with a dot behind them they are a program of one clause all the same
		{"ADD q(5).%", "OK"},
		{"DROP q(5). % remark", "OK"},
	})
	// the longest fact there is: with its dot it is a text of 4000 bytes
	longest := "q(" + strings.Repeat(" ", 3995) + "9)"
	checkLines(t, "", []said{
		{"ADD " + longest, "OK"},
		{"IS q(9)", "YES"},
		{"IS " + longest, "YES"},
		{"DROP " + longest, "OK"},
		{"ADD  " + longest, "ERR 2"},
		{"ADD " + longest + " ", "ERR 2"},
		{"ALL", ""},
	})
}

func TestNumbers(t *testing.T) {
	s := "q(1). p(X) :- q(X)."
	for i := range 120 {
		s += " ?- q(X), X<" + strconv.Itoa(i) + "."
	}
	checkLines(t, s, []said{
		{"ASK 0", ""}, {"ASK 1", ""}, {"ASK 2", "1\n"}, {"ASK 02", "1\n"}, {"ASK 002", "1\n"}, {"ASK 0002", "1\n"}, {"ASK 00002", "ERR 2"},
		{"ASK 0000", ""}, {"ASK 0001", ""}, {"ASK 10", "1\n"}, {"ASK 119", "1\n"}, {"ASK 0119", "1\n"}, {"ASK 00119", "ERR 2"},
		{"ASK 120", "ERR 9"}, {"ASK 121", "ERR 9"}, {"ASK 9999", "ERR 9"}, {"ASK 10000", "ERR 2"}, {"ASK 0120", "ERR 9"},
	})
	checkLines(t, "p.", []said{{"ASK 0", "ERR 9"}, {"ASK 0000", "ERR 9"}, {"ASK", "ERR 2"}})
}

var wrongPrograms = []struct {
	s    string
	want api.Errno
	at   int
}{
	{"p", api.ErrForm, 1},
	{"p(1234567890123456789).", api.ErrRange, 2},
	{"p(1,2,3,4,5,6,7,8,9).", api.ErrMany, 18},
	{strings.Repeat(" ", 4001), api.ErrLong, 0},
	{"p(1). q. ?- p.", api.ErrArity, 12},
	{"p(X) :- q(Y).", api.ErrSafe, 2},
	{"p :- !p.", api.ErrRing, 5},
}

func TestErrorsOfNew(t *testing.T) {
	for _, c := range wrongPrograms {
		if _, e, at := live.New(c.s); e != c.want || at != c.at {
			t.Errorf("K1: New(%q) = %d, %d, want %d, %d", c.s, e, at, c.want, c.at)
		}
		for _, lines := range [][]string{nil, {}, {"ALL"}, {"ADD p", "FOO"}} {
			if l, e, at := Run(c.s, lines); l != nil || e != c.want || at != c.at {
				t.Errorf("M1: Run(%q, %q) = %q, %d, %d, want %d, %d", c.s, lines, l, e, at, c.want, c.at)
			}
			for _, scripts := range [][][]string{nil, {}, {lines}, {lines, lines}} {
				if l, e, at := RunAll(c.s, scripts, 2); l != nil || e != c.want || at != c.at {
					t.Errorf("M2: RunAll(%q, %q) = %q, %d, %d, want %d, %d", c.s, scripts, l, e, at, c.want, c.at)
				}
			}
		}
	}
}

func TestWorkersOutOfRange(t *testing.T) {
	programs := []string{"", "p. ?- p."}
	for _, c := range wrongPrograms {
		programs = append(programs, c.s) // workers are named ahead of what is wrong with a program
	}
	for _, s := range programs {
		for _, workers := range []int{0, -1, -16, 17, 18, 1000000, math.MaxInt, math.MinInt} {
			for _, scripts := range [][][]string{nil, {{"ALL"}}} {
				if l, e, at := RunAll(s, scripts, workers); l != nil || e != api.ErrRange || at != 0 {
					t.Errorf("M2: RunAll(%q, %q, %d) = %q, %d, %d", s, scripts, workers, l, e, at)
				}
			}
		}
	}
}

func TestNoLinesAndNoScripts(t *testing.T) {
	const s = "p. ?- p."
	for _, lines := range [][]string{nil, {}} {
		if l, e, at := Run(s, lines); len(l) != 0 || e != api.OK || at != 0 {
			t.Errorf("M1: %q, %d, %d", l, e, at)
		}
	}
	for _, workers := range []int{1, 2, 16} {
		for _, scripts := range [][][]string{nil, {}} {
			if l, e, at := RunAll(s, scripts, workers); len(l) != 0 || e != api.OK || at != 0 {
				t.Errorf("M2: %q, %d, %d", l, e, at)
			}
		}
		l, e, at := RunAll(s, [][]string{nil, {"ALL"}, {}, {"ASK 0"}, nil}, workers)
		if len(l) != 5 || len(l[0])+len(l[2])+len(l[4]) != 0 || !slices.Equal(l[1], []string{"p\n"}) || !slices.Equal(l[3], []string{"\n"}) || e != api.OK || at != 0 {
			t.Errorf("M2: %q, %d, %d", l, e, at)
		}
	}
}

// scriptsOf are so many that differ, some of which take far longer than others.
func scriptsOf(n int) (scripts [][]string) {
	for i := range n {
		lines := []string{"ADD e(" + strconv.Itoa(i) + ",0)"}
		for k := range i * 7 % 23 {
			lines = append(lines, "ADD e("+strconv.Itoa(k)+","+strconv.Itoa(k+1)+")")
		}
		scripts = append(scripts, append(lines, "ASK 0", "ALL", "DROP e(0,1)", "IS r(0,3)", "FOO", "ASK 0"))
	}
	return scripts
}

func TestAllScripts(t *testing.T) {
	const s = "r(X,Y) :- e(X,Y). r(X,Z) :- e(X,Y), r(Y,Z). ?- r(X,Y), !e(X,Y)."
	scripts := scriptsOf(40)
	var want [][]string
	for _, lines := range scripts {
		answers, _, _ := Run(s, lines)
		want = append(want, answers)
	}
	for workers := 1; workers <= 16; workers++ {
		for _, n := range []int{1, 2, workers - 1, workers, workers + 1, 40} {
			l, e, at := RunAll(s, scripts[:n], workers)
			if len(l) != n || e != api.OK || at != 0 {
				t.Fatalf("M2: %d scripts, %d workers: %d answers, %d, %d", n, workers, len(l), e, at)
			}
			for i := range l {
				if !slices.Equal(l[i], want[i]) {
					t.Errorf("M2: %d scripts, %d workers: script %d is answered %q, want %q", n, workers, i, l[i], want[i])
				}
			}
		}
	}
}

// goroutines tells how many there are, when so many are left or after a while: one that is done may still have to go.
func goroutines(want int) int {
	for range 200 {
		if runtime.NumGoroutine() <= want {
			break
		}
		time.Sleep(time.Millisecond)
	}
	return runtime.NumGoroutine()
}

func TestNothingGoesOn(t *testing.T) {
	before := runtime.NumGoroutine()
	for _, n := range []int{0, 1, 3, 50} {
		for _, workers := range []int{0, 1, 2, 16, 17} {
			RunAll("p(X) :- e(X,Y). ?- p(X).", scriptsOf(n), workers)
			RunAll("p", scriptsOf(n), workers)
			if after := goroutines(before); after > before {
				t.Fatalf("M2: %d scripts, %d workers: %d goroutines go on", n, workers, after-before)
			}
		}
	}
}

// The call waits for its workers: behind it one may still have to go here and there, but not most of them.
func TestWorkersAreWaitedFor(t *testing.T) {
	before, left := runtime.NumGoroutine(), 0
	for range 100 {
		RunAll("p.", nil, 16)
		left += runtime.NumGoroutine() - before
	}
	if left > 100*16/4 {
		t.Errorf("M2: %d of %d goroutines go on", left, 100*16)
	}
}

// Numbers are sent once each, in their order, and no more behind the last one; what comes is laid where it belongs, whenever it comes.
func TestSendAndTake(t *testing.T) {
	numbers, finished := make(chan int), make(chan done)
	var sent []int
	ended := make(chan struct{})
	go func() {
		defer close(ended)
		for range 7 {
			sent = append(sent, <-numbers)
		}
		for i := 6; i >= 0; i-- {
			select {
			case n := <-numbers:
				sent = append(sent, n)
			case finished <- done{i, []string{strconv.Itoa(i)}}:
			}
		}
	}()
	answers := sendAndTake(7, numbers, finished)
	<-ended
	if !slices.Equal(sent, []int{0, 1, 2, 3, 4, 5, 6}) {
		t.Errorf("M2: %v were sent", sent)
	}
	for i, l := range answers {
		if !slices.Equal(l, []string{strconv.Itoa(i)}) {
			t.Errorf("M2: answers %d are %q", i, l)
		}
	}
}

func TestNothingIsSharedOrChanged(t *testing.T) {
	const s = "p(X) :- q(X). ?- p(X)."
	lines := []string{"ADD q(1)", "ASK 0", "ALL", "FOO"}
	scripts := [][]string{lines, lines, lines[:2]}
	a, _, _ := RunAll(s, scripts, 3)
	b, _, _ := RunAll(s, scripts, 3)
	want := []string{"OK", "1\n", "p\t1\nq\t1\n", "ERR 2"}
	for i := range a {
		if !slices.Equal(a[i], want[:len(scripts[i])]) {
			t.Errorf("G4: script %d: %q", i, a[i])
		}
		for k := range a[i] {
			a[i][k] = "gone"
		}
		_ = append(a[i], "gone")
	}
	for i := range b {
		if !slices.Equal(b[i], want[:len(scripts[i])]) {
			t.Errorf("G4: script %d: %q", i, b[i])
		}
	}
	if !slices.Equal(lines, []string{"ADD q(1)", "ASK 0", "ALL", "FOO"}) || len(scripts[2]) != 2 {
		t.Errorf("G4: the lines are %q", lines)
	}
}
