package text

import (
	"strings"

	"lore/api"
	"lore/signs"
)

// The marks (the signs that are no terms), as the table marks has them.
const (
	follows = iota
	asks
	differs
	atMost
	atLeast
	equals
	below
	above
	not
	open
	shut
	comma
	dot
	noMark
	maxText = 4000 // bytes of a program
)

// Those of two bytes stand ahead of those that they begin with: they are one sign wherever they stand.
var marks = [...]string{
	follows: ":-",
	asks:    "?-",
	differs: "!=",
	atMost:  "<=",
	atLeast: ">=",
	equals:  "=",
	below:   "<",
	above:   ">",
	not:     "!",
	open:    "(",
	shut:    ")",
	comma:   ",",
	dot:     ".",
}

// ending is what is thrown where a text can't be read on.
type ending struct {
	errno api.Errno
	place int
}

// reader stands at the first byte of a sign, or at the text's end.
type reader struct {
	s  string
	at int
}

// read hands each clause and each query on as it comes, and throws an ending at the first thing that is wrong.
func read(s string, clause func(api.Clause), query func([]api.Literal)) {
	if len(s) > maxText {
		panic(ending{api.ErrLong, 0})
	}
	r := &reader{s: s}
	r.pass(0)
	for r.at < len(s) {
		if r.takes(asks) {
			query(r.body())
		} else {
			clause(r.clause())
		}
	}
}

func (r *reader) clause() api.Clause {
	c := api.Clause{Head: r.atom()}
	if r.takes(follows) {
		c.Body = r.body()
	} else {
		r.needs(dot)
	}
	return c
}

// body reads literals, and the dot behind them.
func (r *reader) body() []api.Literal {
	l := []api.Literal{r.literal()}
	for r.takes(comma) {
		l = append(l, r.literal())
	}
	r.needs(dot)
	return l
}

func (r *reader) literal() api.Literal {
	if r.takes(not) {
		return api.Literal{Not: true, Atom: r.atom()}
	}
	left := r.term(0)
	op, isOp := r.op()
	if !isOp && left.Kind == signs.Name {
		return api.Literal{Atom: api.Atom{Name: left.Text, Terms: r.terms()}}
	}
	if !isOp {
		r.refuse()
	}
	return api.Literal{Op: op, Left: left, Right: r.term(0)}
}

// op takes the op at hand, if it is one.
func (r *reader) op() (string, bool) {
	m := r.mark()
	if m < differs || m > above {
		return "", false
	}
	r.pass(r.at + len(marks[m]))
	return marks[m], true
}

func (r *reader) atom() api.Atom {
	name, ok := signs.NameAt(r.s, r.at)
	if !ok {
		r.refuse()
	}
	r.pass(r.at + len(name))
	return api.Atom{Name: name, Terms: r.terms()}
}

// terms reads what stands behind an atom's name: terms in brackets, or nothing.
func (r *reader) terms() []api.Term {
	if !r.takes(open) {
		return nil
	}
	l := []api.Term{r.term(0)}
	for r.takes(comma) {
		l = append(l, r.term(len(l)))
	}
	r.needs(shut)
	return l
}

func (r *reader) term(ahead int) api.Term {
	t, end, e := signs.Term(r.s, r.at, ahead)
	if e != api.OK {
		panic(ending{e, end})
	}
	r.pass(end)
	return t
}

func (r *reader) mark() int {
	for m, sign := range marks {
		if strings.HasPrefix(r.s[r.at:], sign) {
			return m
		}
	}
	return noMark
}

func (r *reader) takes(m int) bool {
	if r.mark() != m {
		return false
	}
	r.pass(r.at + len(marks[m]))
	return true
}

func (r *reader) needs(m int) {
	if !r.takes(m) {
		r.refuse()
	}
}

// refuse throws that the sign at hand can't stand there; at the text's end its place is the text's length.
func (r *reader) refuse() {
	panic(ending{api.ErrForm, r.at})
}

// pass goes to a place, and over the blanks and remarks there.
func (r *reader) pass(to int) {
	r.at = signs.Skip(r.s, to)
}
