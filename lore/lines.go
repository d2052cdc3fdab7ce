package lore

import (
	"strconv"
	"strings"

	"lore/api"
	"lore/live"
	"lore/query"
	"lore/rows"
	"lore/signs"
	"lore/text"
)

// run is a program while a script's lines are answered.
type run struct {
	program string
	live    *live.Live
}

// answer tells what a line is answered. (A line without a blank is one without a rest: but for `ALL` it has no right form.)
func (r run) answer(line string) string {
	if line == "ALL" {
		return r.all()
	}
	word, rest, _ := strings.Cut(line, " ")
	if word == "ASK" && isNumber(rest) {
		return r.ask(rest)
	}
	if a, ok := atomOf(rest); ok {
		switch word {
		case "ADD":
			return outcome(r.live.Add(a))
		case "DROP":
			return outcome(r.live.Remove(a))
		case "IS":
			return r.is(a)
		}
	}
	return outcome(api.ErrForm)
}

func (r run) all() string {
	s, _, _ := rows.Print(r.live.Model())
	return s
}

func (r run) is(a api.Atom) string {
	if rows.Has(r.live.Model(), a) {
		return "YES"
	}
	return "NO"
}

func (r run) ask(number string) string {
	n, _ := strconv.Atoi(number)
	_, answers, e, _ := query.Ask(r.program, r.live.Given(), n)
	if e != api.OK {
		return outcome(e)
	}
	var b strings.Builder
	for _, row := range answers {
		b.WriteString(values(row...) + "\n")
	}
	return b.String()
}

// values writes terms in the plain form (A3), with `,` between.
func values(terms ...api.Term) string {
	var plain []string
	for _, t := range terms {
		plain = append(plain, signs.Plain(t))
	}
	return strings.Join(plain, ",")
}

func outcome(e api.Errno) string {
	if e == api.OK {
		return "OK"
	}
	return "ERR " + strconv.Itoa(int(e))
}

const maxDigits = 4

// isNumber tells whether a text is the number of a query: digits alone, at most so many.
func isNumber(s string) bool {
	return s != "" && len(s) <= maxDigits && strings.Trim(s, "0123456789") == ""
}

// atomOf reads the text of an atom: with a `.` behind it, it is a program of one clause without a body.
func atomOf(s string) (api.Atom, bool) {
	p, e, _ := text.Parse(s + ".")
	if e != api.OK || len(p.Clauses) != 1 || len(p.Queries) > 0 || len(p.Clauses[0].Body) > 0 {
		return api.Atom{}, false
	}
	return p.Clauses[0].Head, true
}
