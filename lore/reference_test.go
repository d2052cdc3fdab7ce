package lore

import (
	"math/rand"
	"regexp"
	"slices"
	"strconv"
	"strings"
	"testing"

	"lore/api"
	"lore/model"
	"lore/query"
	"lore/rows"
	"lore/step"
	"lore/text"
)

// What M1 says, taken word by word: with each line all is worked out anew of the facts that are given.
type reference struct {
	program string
	given   []api.Atom
}

var (
	ofFact = regexp.MustCompile(`(?s)^(ADD|DROP|IS) (.*)$`)
	ofAsk  = regexp.MustCompile(`^ASK ([0-9]{1,4})$`)
)

func (f *reference) answer(line string) string {
	m, _, _ := model.Model(f.program, f.given)
	if line == "ALL" {
		all, _, _ := rows.Print(m)
		return all
	}
	if ask := ofAsk.FindStringSubmatch(line); ask != nil {
		n, _ := strconv.Atoi(ask[1])
		return f.ask(n)
	}
	parts := ofFact.FindStringSubmatch(line)
	if parts == nil {
		return "ERR 2"
	}
	p, e, _ := text.Parse(parts[2] + ".")
	if e != api.OK || len(p.Clauses) != 1 || p.Clauses[0].Body != nil || p.Queries != nil {
		return "ERR 2"
	}
	return f.withFact(parts[1], p.Clauses[0].Head, m)
}

func (f *reference) withFact(word string, a api.Atom, m []api.Atom) string {
	_, e, _ := step.Step(f.program, []api.Atom{a})
	given := rows.Has(f.given, a)
	switch {
	case word == "IS" && rows.Has(m, a):
		return "YES"
	case word == "IS":
		return "NO"
	case word == "DROP" && !given:
		return "ERR 9"
	case word == "DROP":
		f.given = rows.Less(f.given, []api.Atom{a})
	case e != api.OK:
		return "ERR " + strconv.Itoa(int(e))
	case given:
		return "ERR 10"
	default:
		f.given = rows.Union(f.given, []api.Atom{a})
	}
	return "OK"
}

func (f *reference) ask(n int) (told string) {
	names, l, e, _ := query.Ask(f.program, f.given, n)
	if e != api.OK {
		return "ERR 9"
	}
	for _, row := range l {
		if shown := text.Show(api.Atom{Terms: row}); len(names) > 0 {
			told += shown[1 : len(shown)-1]
		}
		told += "\n"
	}
	return told
}

var (
	programs = []string{
		"",
		"p(X) :- q(X), !r(X). r(X) :- e(X,X). ?- s(X). ?- p(X), !e(X,X).",
		"?- r(X). r(X) :- q(X). r(Y) :- r(X), e(X,Y). p(X) :- q(X), !s(X). s(X) :- e(X,Y), !r(Y). ?- p(X), e(Y,X). ?- z.",
		"q(1). p(1). e(X,Y) :- q(X), q(Y), X<Y. z :- !y. y :- p(2), r(1). s(X) :- q(X), !z. ?- e(X,Y). ?- !y. ?- s(X).",
	}
	facts = []string{"q(1)", "q( 2)", `q("a,\n")`, "q(x)", "e(1,2)", "e(2,1)", "e(2,2)", "e(x,2)", "r(1)", "p(1)", "p(2)", "s(01)", "z", "y ", "other", "q", "e(1)", "q(X)", "q(1).", "q(1) :- z", "\n q%\n(1)"}
	words = []string{"ADD ", "ADD ", "ADD ", "DROP ", "DROP ", "IS ", "IS ", "IS", "PUT ", " ADD "}
	asks  = []string{"ALL", "ALL", "ASK 0", "ASK 1", "ASK 2", "ASK 0000", "ASK 3", "ASK x", "ASK", "ALL "}
)

func pick(r *rand.Rand, l []string) string { return l[r.Intn(len(l))] }

func drawLines(r *rand.Rand) (lines []string) {
	for range r.Intn(60) {
		if r.Intn(4) == 0 {
			lines = append(lines, pick(r, asks))
		} else {
			lines = append(lines, pick(r, words)+pick(r, facts))
		}
	}
	return lines
}

func TestAgainstReference(t *testing.T) {
	seen := map[string]int{}
	for seed := range int64(60) {
		r := rand.New(rand.NewSource(seed))
		s := pick(r, programs)
		var scripts, want [][]string
		for range r.Intn(20) {
			f := reference{program: s}
			lines := drawLines(r)
			var answers []string
			for _, line := range lines {
				answers = append(answers, f.answer(line))
				seen[answers[len(answers)-1]]++
			}
			scripts, want = append(scripts, lines), append(want, answers)
		}
		all, e, _ := RunAll(s, scripts, 1+r.Intn(16))
		if e != api.OK || len(all) != len(scripts) {
			t.Fatalf("M2: %d answers to %d scripts, %d", len(all), len(scripts), e)
		}
		for i, lines := range scripts {
			if got, e, _ := Run(s, lines); e != api.OK || !slices.Equal(got, want[i]) {
				t.Fatalf("M1: %s: %q: %q, %d, want %q", s, lines, got, e, want[i])
			}
			if !slices.Equal(all[i], want[i]) {
				t.Fatalf("M2: %s: %q: %q, want %q", s, lines, all[i], want[i])
			}
		}
	}
	for _, answer := range []string{"OK", "YES", "NO", "", "\n", "1\n", "ERR 2", "ERR 5", "ERR 8", "ERR 9", "ERR 10"} {
		if seen[answer] < 30 {
			t.Errorf("only %d lines are answered %q", seen[answer], answer)
		}
	}
}

// However the facts came: what is asked behind a script is answered as if those that are given were added, and nothing else was said.
func TestHowTheyCameDoesNotMatter(t *testing.T) {
	changed := 0
	for seed := range int64(200) {
		r := rand.New(rand.NewSource(seed))
		s := pick(r, programs)
		lines := drawLines(r)
		f := reference{program: s}
		for _, line := range lines {
			f.answer(line)
		}
		var straight []string
		for _, i := range r.Perm(len(f.given)) {
			straight = append(straight, "ADD "+text.Show(f.given[i]))
		}
		ask := []string{"ALL", "ASK 0", "ASK 1", "ASK 2"}
		for _, fact := range facts {
			ask = append(ask, "IS "+fact)
		}
		a, _, _ := Run(s, append(slices.Clone(lines), ask...))
		b, _, _ := Run(s, append(slices.Clone(straight), ask...))
		if x, y := a[len(lines):], b[len(straight):]; !slices.Equal(x, y) {
			t.Fatalf("M3: %s: behind %q: %q, but behind %q: %q", s, lines, x, straight, y)
		}
		changed += strings.Count(strings.Join(a[:len(lines)], " "), "OK")
	}
	if changed < 1000 {
		t.Errorf("only %d changes", changed)
	}
}
