package rows

import (
	"strconv"

	"lore/api"
	"lore/signs"
)

// wrong is what is wrong in a line, and its place in the whole text.
type wrong struct {
	errno api.Errno
	place int
}

// Error makes it an error.
func (w wrong) Error() string {
	return "error " + strconv.Itoa(int(w.errno)) + " at byte " + strconv.Itoa(w.place)
}

func readLines(s string) ([]api.Atom, error) {
	var l []api.Atom
	for at := 0; at < len(s); {
		a, end, err := readLine(s, at)
		if err != nil {
			return nil, err
		}
		l = append(l, a)
		at = end
	}
	return l, nil
}

// readLine tells a line's fact, and the place behind the line.
func readLine(s string, at int) (api.Atom, int, error) {
	name, ok := signs.NameAt(s, at)
	if !ok {
		return api.Atom{}, 0, wrong{api.ErrForm, at}
	}
	a := api.Atom{Name: name}
	at += len(name)
	for at < len(s) && s[at] == '\t' {
		t, end, err := readValue(s, at+1, len(a.Terms))
		if err != nil {
			return api.Atom{}, 0, err
		}
		a.Terms = append(a.Terms, t)
		at = end
	}
	if at == len(s) || s[at] != '\n' {
		return api.Atom{}, 0, wrong{api.ErrForm, at}
	}
	return a, at + 1, nil
}

// readValue tells a term, and the place behind it.
func readValue(s string, at int, ahead int) (api.Term, int, error) {
	// Ahead of Term, which could tell ErrMany for the same place: ErrForm is named first.
	if signs.VariableAt(s, at) {
		return api.Term{}, 0, wrong{api.ErrForm, at}
	}
	t, end, e := signs.Term(s, at, ahead)
	if e != api.OK {
		return api.Term{}, 0, wrong{e, end}
	}
	return t, end, nil
}
